import PyProof.Rows.All
import Wide.All
import OpenK.AllK
import Wide.FinOn
import Lean
import PyProof.EqAt
import PyProof.EqKinds
import PyProof.TupleCall
import PySem.Challenge.RW_camplay_k38_stepped
set_option Elab.async false
set_option linter.all false
set_option compiler.extract_closed false
set_option bootstrap.genMatcherCode false
set_option maxRecDepth 100000
set_option maxHeartbeats 4000000
open List (all_cons all_eq_true any_cons any_eq_true append_nil cons_append cons_ne_nil ext_getElem ext_getElem? filterMap_cons filter_append filter_cons filter_cons_of_neg filter_cons_of_pos filter_nil flatMap_append flatMap_cons flatten_cons foldl_append foldl_cons getD_eq_getElem?_getD getElem_idxOf getElem_map getElem_mem getElem_range getElem_take idxOf_lt_length_of_mem length_cons length_filter_le length_map length_nil length_pos_iff length_range length_replicate length_reverse length_set length_singleton length_take length_zip lookup_cons map_append map_congr_left map_cons map_id map_nil map_reverse map_set map_take mem_append mem_append_left mem_append_right mem_cons mem_cons_of_mem mem_cons_self mem_filter mem_filterMap mem_flatMap mem_iff_getElem mem_map mem_of_mem_take mem_range mem_reverse mem_singleton nil_append nodup_append nodup_cons nodup_nil nodup_range of_mem_zip pairwise_cons pairwise_iff_getElem pairwise_map pairwise_singleton range_succ replicate_succ reverse_cons size_toArray sum_append sum_cons take_length take_of_length_le take_sublist)
open Lean in
def B0:Nat->Term->MacroM (TSyntax `rcasesPat)
 | 0,_=>Macro.throwUnsupported
 | n+1,t=>match t with
  | `(⟨$xs,*⟩)=>do let ps<-xs.getElems.mapM λx=>do let p<-B0 n x;`(Parser.Tactic.rcasesPatLo| $p:rcasesPat)
                   `(rcasesPat| ⟨$ps,*⟩)
  | `(_)=>`(rcasesPat| _)
  | `($x:ident)=>`(rcasesPat| $x:ident)
  | _=>Macro.throwUnsupported
local macro_rules
 | `(#[$a,$b]) => `(⟨$a,$b⟩)
 | `(#[$a,$b,$c,*]) => `(⟨$a,$b,$c,*⟩)
local macro_rules | `(tactic| rwa[$r,*]) => do
 let a:Array (Lean.TSyntax `term):=r.getElems.map λx=>⟨x.raw[1]⟩
 if a.size==1 then `(tactic| exact $(a[0]!)) else `(tactic| exact ⟨$a,*⟩)
local macro_rules | `(tactic| erw[$r,*]) => do
 let a:Array (Lean.TSyntax `term):=r.getElems.map λx=>⟨x.raw[1]⟩
 if a.size==1 then `(tactic| refine $(a[0]!)) else `(tactic| refine ⟨$a,*⟩)
local macro_rules | `($a⊂$b) => `($a=some $b)
local macro_rules | `($x⁻¹) => `(($x).heap.objs.size)
local macro_rules | `(tactic| let $p:term:=$e) => do let q<-B0 9 p;`(tactic| obtain $q:rcasesPat:=$e)
set_option hygiene false
local macro_rules | `(⇑$x) => `(($x).length)
local macro_rules | `(↥$x) => `(some (.ref $x))
local macro_rules | `(~~~$x) => `(some (.int $x))
local macro_rules | `($x∘$y) => `(($x).getD $y 0)
set_option hygiene true
local macro_rules | `(∅) => `(by trivial)
local macro_rules | `(#v[$x]) => `(by simpa using $x)
abbrev Nz:=PySem.Value->PySem.Shared->Prop
abbrev Ny:=List (PySem.Addr×PySem.Obj)
abbrev Nw:=PySem.Str->Option PySem.Value
abbrev Nv:=Option PySem.Value
abbrev Nu:=Option Int
abbrev Nt:=List PySem.Expr
abbrev Nr:=List PySem.Env
abbrev Np:=List (Int×Int)
local macro_rules | `(tactic| and_intros) => `(tactic| first | exact .inl rfl | exact .inr rfl | assumption)
local macro_rules | `(⋯) => `(by lia)
local macro_rules | `(nofun) => `(by decide)
abbrev vz:=@List.getElem?_eq_getElem
abbrev vy:=@List.getD_eq_getElem?_getD
abbrev vx:=@List.getElem?_eq_some_iff
abbrev vv:=@List.getElem?_map
abbrev vt:=@List.length_map
abbrev vq:=@List.mem_cons_self
abbrev vp:=@List.mem_cons_of_mem
abbrev vo:=@List.mem_singleton
abbrev vn:=@List.length_append
abbrev vm:=@List.mem_of_getElem?
abbrev vj:=@List.map_append
abbrev vi:=@List.length_take
abbrev vh:=@List.mem_append
abbrev vg:=@Option.map_eq_some_iff
abbrev vf:=@Int.emod_lt_of_pos
abbrev ve:=@Int.emod_nonneg
abbrev vd:=@if_pos
abbrev vc:=@if_neg
abbrev vb:=@Nat.le_refl
abbrev va:=@Nat.zero_le
abbrev vA:=@Int.le_refl
abbrev vB:=@List.getElem?_append_left
abbrev vC:=@List.getElem?_append_right
abbrev vD:=@Nat.lt_of_le_of_lt
abbrev vE:=@Nat.ne_of_lt
abbrev vF:=@Bool.false_ne_true
abbrev vG:=@decide_eq_true
abbrev vH:=@decide_eq_false
abbrev vI:=@PySem.Heap.lt_size
abbrev vJ:=@PySem.Heap.get?_push_of_some
abbrev vK:=@List.mem_map
abbrev vL:=@Option.some.inj
abbrev vO:=@Nat.ne_of_gt
abbrev vP:=@List.mem_filter
abbrev vQ:=@List.length_cons
abbrev vS:=@List.length_singleton
abbrev vT:=@List.getElem?_eq_none
abbrev vV:=@List.pairwise_cons
abbrev vW:=@Nat.le_trans
abbrev vY:=@Nat.le_of_lt
abbrev vZ:=@Nat.lt_trans
abbrev v4:=@List.mem_range
abbrev v5:=@List.take_length
abbrev v6:=@List.map_map
abbrev v7:=@List.foldl_cons
abbrev v8:=@List.filter_cons
abbrev v9:=@List.map_cons
abbrev uz:=@List.sum_cons
abbrev ux:=@Int.zero_add
abbrev ur:=@Nat.sub_self
abbrev uo:=@List.nodup_cons
abbrev uh:=@PySem.wpAny_bind
abbrev ug:=@PySem.wpAny_pure
abbrev uf:=@absurd
def ud:1<=PySem.sizeLine:=by decide
def uc:2<=PySem.sizeLine:=by decide
def ub:3<=PySem.sizeLine:=by decide
def ua:4<=PySem.sizeLine:=by decide
abbrev cp := PySem.W.Frag
abbrev L0:=List (List (Int×Int))
abbrev L1:=List (List Int)
abbrev L3:=List (Nat×Int)
abbrev L4:=List (PySem.Str×Int)
abbrev L5:=List Int
abbrev L6:=List Nat
abbrev L7:=List PySem.Addr
abbrev L8:=List PySem.Str
abbrev L9:=List PySem.Value
abbrev q3:=@PySem.F.plainAttrs_list
abbrev q4:=@PySem.F.slot_list_append
abbrev q5:=@PySem.F.type_list_append
abbrev q7:=@PySem.F.plainAttrs_dict
namespace L2
open PySem PySem.Spec PyProof.Rows
noncomputable abbrev Key:=Sum Int Str
noncomputable def fU:Key->Value->Bool
 | .inl k,v=>Value.isInt k v
 | .inr x,v=>Value.isStrOf x v
noncomputable def tM(w:World):Key->Int
 | .inl k=>hashInt k
 | .inr x=>hashStr w x
def Jk:∀{k:Key} {v:Value},fU k v=true->(∃i t,k=Sum.inl i/\v=Value.int i t)\/(∃x t,k=Sum.inr x/\v=Value.str x t)
 | .inl i,v,h=>by
  let⟨t,e⟩:=Value.isInt_shape (k:=i) (v:=v) h;rwa[.inl #[i,t,rfl,e]]
 | .inr x,v,h=>by
  let⟨t,e⟩:=Value.isStrOf_shape (x:=x) (v:=v) h;rwa[.inr #[x,t,rfl,e]]
def xT(i:Int)(t:Tok):fU (.inl i) (.int i t)=true:=by simp[fU,Value.isInt]
def xU(x:Str)(t:Tok):fU (.inr x) (.str x t)=true:=by simp[fU,Value.isStrOf]
def M7(a b:Int):decide ((Sum.inl a:Key)=Sum.inl b)=(a==b):=by
 lia
def Nb(a b:Str):decide ((Sum.inr a:Key)=Sum.inr b)=decide (a=b):=by
 lia
def M9(a:Int)(b:Str):decide ((Sum.inl a:Key)=Sum.inr b)=false:=vH (λq=>nomatch q)
def Na(a:Str)(b:Int):decide ((Sum.inr a:Key)=Sum.inl b)=false:=vH (λq=>nomatch q)
noncomputable def cb(prog:Program)(w:World):PySem.KeyKind prog w Key where
 is:=fU
 hash:=tM w
 inj:=λv a b ha hb=>by
  rcases Jk ha with⟨i,t,rfl,rfl⟩ | ⟨x,t,rfl,rfl⟩
  .rcases Jk hb with⟨j,u,rfl,e⟩ | ⟨y,u,rfl,e⟩
   .injection e with e1 _;rw[e1]
   .exact nomatch e
  .rcases Jk hb with⟨j,u,rfl,e⟩ | ⟨y,u,rfl,e⟩
   .exact nomatch e
   .injection e with e1 _;rw[e1]
 byValue:=λk v h=>by
  rcases Jk h with⟨i,t,rfl,rfl⟩ | ⟨x,t,rfl,rfl⟩<;>rfl
 pyHash:=λhv h=>by
  rcases Jk hv with⟨i,t,rfl,rfl⟩ | ⟨x,t,rfl,rfl⟩
  .exact wpAny_pyHash_int h
  .exact wpAny_pyHash_str h
 eqBool:=λhu hv h=>by
  rcases Jk hu with⟨i,t,rfl,rfl⟩ | ⟨x,t,rfl,rfl⟩
  .rcases Jk hv with⟨j,u,rfl,rfl⟩ | ⟨y,u,rfl,rfl⟩
   .rw[M7]at h;rwa[wpAny_eqBool_int h]
   .rw[M9]at h;rwa[SeqAt.EqAt.int_str i t y u _ _ _ _ h]
  .rcases Jk hv with⟨j,u,rfl,rfl⟩ | ⟨y,u,rfl,rfl⟩
   .rw[Na]at h;rwa[SeqAt.EqAt.str_int x t j u _ _ _ _ h]
   .rw[Nb]at h;rwa[wpAny_eqBool_str h]
 «strs»:=λk x t v h=>by
  rcases Jk h with⟨i,u,rfl,e⟩ | ⟨y,u,rfl,e⟩
  .exact nomatch e
  .injection e with e1 _;subst e1;cases v<;>rfl
def Fc(prog:Program)(w:World)(i:Int)(t:Tok):(cb prog w).is (.inl i) (.int i t)=true:=xT i t
def Fd(prog:Program)(w:World)(x:Str)(t:Tok):(cb prog w).is (.inr x) (.str x t)=true:=xU x t
inductive V where
 | cV | bl (b:Bool) | int (i:Int) | str (x:Str) | lO (b:Array UInt8) | pL (b:UInt64) | ref (a:Addr) | ty (n:String)
 deriving DecidableEq
abbrev N3:=Option V
abbrev N2:=List V
noncomputable def RelV:V->Value->Prop
 | .cV,u=>u=Value.none
 | .bl b,u=>u=Value.bool b
 | .int i,u=>∃t,u=Value.int i t
 | .str x,u=>∃t,u=Value.str x t
 | .lO b,u=>∃t,u=Value.bytes b t
 | .pL b,u=>∃t,u=Value.float b t
 | .ref a,u=>u=Value.ref a
 | .ty n,u=>u=Value.type n
noncomputable abbrev Vals:N2->L9->Prop:=Paired RelV
def Vals.length(r:Vals xs us):⇑xs=⇑us:=Paired.length r
theorem Vals.get:∀{xs:N2} {us:L9} {i:Nat} {x:V},Vals xs us->xs[i]?⊂x->∃u,us[i]?⊂u/\RelV x u
 | _,_,_,_,.nil,e=>by simp at e
 | _,_,0,_,.cons r _,e=>by simp at e;subst e;rwa[_,rfl,r]
 | _,_,i+1,x,.cons _ t,e=>by
  let⟨u,a,b⟩:=Vals.get (i:=i) (x:=x) t #v[e];rwa[u,#v[a],b]
theorem Vals.set(r:RelV x u):∀{xs:N2} {us:L9} (i:Nat),Vals xs us->Vals (xs.set i x) (us.set i u)
 | _,_,_,.nil=>.nil
 | _,_,0,.cons _ t=>.cons r t
 | _,_,i+1,.cons q t=>.cons q (Vals.set r i t)
def Vals.append:∀{xs ys:N2} {us a:L9},Vals xs us->Vals ys a->Vals (xs++ys) (us++a):=by
 intro xs ys us a h s
 induction h with
 | nil=>rwa[s]
 | cons r t ih=>rwa[.cons r ih]
theorem Vals.take:∀{xs:N2} {us:L9} (n:Nat),Vals xs us->Vals (xs.take n) (us.take n)
 | _,_,0,_=>.nil
 | _,_,_+1,.nil=>.nil
 | _,_,n+1,.cons r t=>.cons r (Vals.take n t)
theorem Vals.drop:∀{xs:N2} {us:L9} (n:Nat),Vals xs us->Vals (xs.drop n) (us.drop n)
 | _,_,0,r=>r
 | _,_,_+1,.nil=>.nil
 | _,_,n+1,.cons _ t=>Vals.drop n t
noncomputable def fP:N3->Option Value->Prop
 | some v,some u=>RelV v u
 | none,none=>True
 | _,_=>False
noncomputable def KV{κ:Type}:List (κ×V)->List (κ×Value)->Prop:=Paired λ(p:κ×V) (q:κ×Value)=>p.1=q.1/\RelV p.2 q.2
noncomputable def kV:Key->V
 | .inl i=>.int i
 | .inr x=>.str x
inductive HO where
 | lst (xs:N2)
 | tup (xs:N2)
 | dK (kvs:List (Key×V)) | dT (kvs:List (List Key×V))
 | set (S:Int->Bool) (n:Nat)
 | ins (C dx:Addr) (fs:List (Str×V))
 | own (x:Addr)
 | xd (fs:List (Str×V))
 | met (f x:Addr)
 | ue (lo hi:Int)
 | gM (o:Obj) (u:HO)
 | pq (ps:Array Value)
 | ext (φ:Heap->Prop)
noncomputable abbrev Hp:=Addr->Option HO
noncomputable def upd(H:Hp)(a:Addr)(o:HO):Hp:=λb=>if b=a then some o else H b
def jA{H:Hp}:upd H a o a⊂o:=by unfold upd;rw[vd rfl]
def jh{H:Hp}(h:b≠a):upd H a o b=H b:=by unfold upd;rw[vc h]
def LC{H:Hp}{a:Addr}{o u:HO}:upd (upd H a o) a u=upd H a u:=by
 funext b;unfold upd;split<;>rfl
def Jz{H:Hp}(h:H a⊂o)(h':H b⊂u)(d:o≠u):a≠b:=by
 intro e;subst e;rw[h]at h';rwa[d (vL h')]
def je{H:Hp}(h:H a⊂o)(h':H b=none):a≠b:=by
 lia
section
variable(P:Program)(w:World)
noncomputable def cm(H:Hp)(h:Heap)(a:Addr):HO->Prop
 | .lst xs=>⇑xs<=sizeLine/\∃(its:L9) (n:Nat),Vals xs its/\h.get? a=some {cls:=.type "list",data:=.seq its.toArray n}
 | .tup xs=>⇑xs<=sizeLine/\∃its:L9,Vals xs its/\IsTup h a its.toArray
 | .dK kvs=>⇑kvs<=sizeLine/\(a==sysModules)=false/\∃vs,KV kvs vs/\h.DictOf (cb P w) a vs
 | .dT kvs=>⇑kvs<=sizeLine/\(a==sysModules)=false/\∃xs:List (List Key×Addr×Value),
   Paired (λ(p:List Key×V) (q:List Key×Addr×Value)=>p.1=q.1/\H q.2.1⊂(.tup (p.1.map kV))/\RelV p.2 q.2.2) kvs xs/\
   ∃o es ep,h.get? a⊂o/\o.ExactDict/\o.data = .dict es ep/\es.toList=xs.map (entryOfKey (tupleKind (cb P w)))/\(xs.map (·.1)).Nodup
 | .set S n=>h.SetOf (intKind P w) a S n
 | .ins C dx fs=>H dx⊂.own a/\⇑fs<=1000/\dx≠a/\h.get? a⊂(PySem.W.instObj C dx)/\
   ∃mA,h.Ns1 dx mA/\(∀f,fP (fs.lookup f) (mA f))/\PySem.Within mA (fs.map (·.1))
 | .own _=>∃o,h.get? a⊂o
 | .xd fs=>∃mA,h.Ns1 a mA/\∀f,fP (fs.lookup f) (mA f)
 | .ue lo hi=>∃t u v,h.get? a=some {cls:=.type "range",data:=.fields [.int lo t,.int hi u,.int 1 v].toArray}
 | .gM o u=>h.get? a⊂o/\cm H h a u
 | .pq ps=>h.get? a=some {cls:=.none,data:=.fields ps}
 | .met f x=>h.get? a⊂(PySem.W.methodObj (.ref f) (.ref x))
 | .ext φ=>φ h/\(∃o,h.get? a⊂o)/\∀h1 h2:Heap,φ h1->(∀o,h1.get? a⊂o->h2.get? a⊂o)->φ h2
def eX(H:Hp)(h:Heap):Prop:=∀a o,H a⊂o->cm P w H h a o
end
section
variable{P:Program}{w:World}{H H':Hp}{h h':Heap}{a:Addr}{o:HO}
def cm.lt(x:cm P w H h a o):a<h.objs.size:=by
 cases o with
 | lst xs=>let⟨q,q,q,q,e⟩:=x;rwa[vI e]
 | tup xs=>let⟨q,q,q,p⟩:=x;rwa[p.lt]
 | dK kvs=>let⟨q,q,q,q,o,q,q,e,q⟩:=x;rwa[vI e]
 | dT kvs=>let⟨q,q,q,q,o,q,q,e,q⟩:=x;rwa[vI e]
 | set S n=>let⟨o,q,q,q,e,q⟩:=x;rwa[vI e]
 | ins C dx fs=>let⟨q,q,q,e,q⟩:=x;rwa[vI e]
 | own y=>let⟨q,e⟩:=x;rwa[vI e]
 | xd fs=>let⟨q,⟨q,q,q,e,q⟩,q⟩:=x;rwa[vI e]
 | ue lo hi=>let⟨q,q,q,e⟩:=x;rwa[vI e]
 | gM ob u=>let⟨e,q⟩:=x;rwa[vI e]
 | pq ps=>rwa[vI (show h.get? a⊂_ from x)]
 | met f y=>rwa[vI (show h.get? a⊂_ from x)]
 | ext φ=>let⟨q,⟨q,e⟩,q⟩:=x;rwa[vI e]
def Paired.tR{c d:Type}{F G:c->d->Prop}:∀{l₁:List c} {l₂:List d},Paired F l₁ l₂->(∀a b,F a b->G a b)->Paired G l₁ l₂:=by
 intro l₁ l₂ h f
 induction h with
 | nil=>rwa[.nil]
 | cons r t ih=>rwa[.cons (f _ _ r) ih]
def cm.hW(x:cm P w H h a o)(k:∀b u,(b=a\/H b⊂.own a)->h.get? b⊂u->h'.get? b⊂u)
  (D:∀b,H b⊂.own a->H' b⊂.own a) (E:∀b xs,H b⊂.tup xs->H' b⊂.tup xs):cm P w H' h' a o:=by
 induction o with
 | lst xs=>let⟨z,l,n,r,e⟩:=x;rwa[z,l,n,r,k _ _ (.inl rfl) e]
 | tup xs=>let⟨z,l,r,g,e,c⟩:=x;rwa[z,l,r,g,k _ _ (.inl rfl) e,c]
 | dK kvs=>let⟨z,y,G,r,g,j,i,e,c⟩:=x;rwa[z,y,G,r,g,j,i,k _ _ (.inl rfl) e,c]
 | dT kvs=>
  let⟨z,y,xs,r,g,j,i,e,c⟩:=x;rwa[z,y,xs,Paired.tR r λp q z=>#[z.1,E _ _ z.2.1,z.2.2],g,j,i,k _ _ (.inl rfl) e,c]
 | set S n=>let⟨g,j,i,t,e,c⟩:=x;rwa[g,j,i,t,k _ _ (.inl rfl) e,c]
 | ins C dx fs=>
  let⟨d,z,F,e,m,⟨s,j,i,B,c⟩,r⟩:=x;rwa[D _ d,z,F,k _ _ (.inl rfl) e,m,#[s,j,i,k _ _ (.inr d) B,c],r]
 | own y=>let⟨g,e⟩:=x;rwa[g,k _ _ (.inl rfl) e]
 | xd fs=>let⟨m,⟨s,j,i,e,c⟩,r⟩:=x;rwa[m,#[s,j,i,k _ _ (.inl rfl) e,c],r]
 | ue lo hi=>let⟨t,u,v,e⟩:=x;rwa[t,u,v,k _ _ (.inl rfl) e]
 | gM g u ih=>let⟨e,q⟩:=x;rwa[k _ _ (.inl rfl) e,ih q]
 | pq ps=>
  have e:h.get? a=some {cls:=.none,data:=.fields ps}:=x;show h'.get? a=some {cls:=.none,data:=.fields ps};rwa[k a _ (.inl rfl) e]
 | met f y=>
  have e:h.get? a⊂(PySem.W.methodObj (.ref f) (.ref y)):=x;show h'.get? a⊂(PySem.W.methodObj (.ref f) (.ref y));rwa[k a _ (.inl rfl) e]
 | ext φ=>let⟨p,⟨o,e⟩,A⟩:=x;rwa[A _ _ p λo q=>k _ _ (.inl rfl) q,#[o,k _ _ (.inl rfl) e],A]
def eX.lt(x:eX P w H h)(e:H a⊂o):a<h.objs.size:=(x a o e).lt
def eX.fresh(x:eX P w H h)(e:h.objs.size<=a):H a=none:=by
 cases q:H a with
 | none=>rfl
 | some u=>rwa[uf (Nat.lt_of_lt_of_le (x.lt q) e) (Nat.lt_irrefl _)]
def eX.kept(x:eX P w H h)(k:∀b u,h.get? b⊂u->h'.get? b⊂u):eX P w H h':=λa o e=>
 (x a o e).hW (λb u j q=>k b u q) (λj q=>q) λj j q=>q
def eX.laid(x:eX P w H h)(k:∀b u,h.get? b⊂u->h'.get? b⊂u)(i:h.objs.size<=a)(d:cm P w (upd H a o) h' a o):eX P w (upd H a o) h':=λb u e=>by
 have g:=x.fresh i;by_cases f:b=a
 .subst f;rw[jA]at e;cases e;rwa[d]
 .rw[jh f]at e;rwa[(x b u e).hW (λc v Z q=>k c v q) (λc q=>by rw[jh (je q g)];rwa[q]) λc j q=>by rw[jh (je q g)];rwa[q]]
end
def Rd(H:Hp)(a:Addr)(u:HO):Prop:=H a⊂u\/∃o,H a⊂.gM o u
def Rd.ok{H:Hp}(r:Rd H a u)(x:eX P w H h):cm P w H h a u:=by
 rcases r with r | ⟨o,r⟩
 .exact x a u r
 .let⟨_,q⟩:=x a _ r;rwa[q]
noncomputable def sV:Option HO->Prop
 | some (.lst _)=>True
 | some (.dK _)=>True
 | some (.dT _)=>True
 | some (.set _ _)=>True
 | some (.ins _ _ _)=>True
 | some (.ext _)=>True
 | _=>False
section
variable{P:Program}{w:World}{H:Hp}{h h':Heap}{x e:Addr}{o':HO}
def eX.write(s:eX P w H h)(g:sV (H x))(o:e=x\/H e⊂.own x)(k:∀b u,b≠e->h.get? b⊂u->h'.get? b⊂u)(l:∃u,h'.get? e⊂u)
  (m:cm P w (upd H x o') h' x o'):eX P w (upd H x o') h':=λb u q=>by
 have d:∀c y,H c⊂.own y->c≠x:=λc y r z=>by subst z;rw[r]at g;rwa[g]
 have f:∀c i,H c⊂.tup i->c≠x:=λc i r z=>by subst z;rw[r]at g;rwa[g]
 by_cases j:b=x
 .subst j;rw[jA]at q;cases q;rwa[m]
 .rw[jh j]at q;by_cases a:b=e
  .have n:H b⊂(.own x):=by
    rcases o with z | z
    .exact uf (a.trans z) j
    .rw[a];rwa[z]
   rw[q]at n;cases n;let⟨v,p⟩:=l;rwa[v,by rw[a];rwa[p]]
  .refine(s b u q).hW (λc v t r=>k c v ?_ r) (λc r=>by rw[jh (d c b r)];rwa[r]) λc i r=>by rw[jh (f c i r)];exact r
   grind
end
structure Un(fs ex:L7)(H H':Hp)(h h':Heap):Prop where
 keep:∀b o,h.get? b⊂o->H b=none->b∉fs->b∉ex->h'.get? b⊂o
 slot:∀b o,h.get? b⊂o->H b=none->b∈fs->b∉ex->∃sl,h'.get? b=some {o with slots:=sl}
 free:∀b o,h.get? b⊂o->H b=none->b∉ex->H' b=none
 there:∀b o,h.get? b⊂o->b∉ex->∃o',h'.get? b⊂o'
 dF:∀b xs,H b⊂.tup xs->H' b⊂.tup xs
 gS:∀b o u,H b⊂.gM o u->H' b⊂.gM o u
 iO:∀b ps,H b⊂.pq ps->∃more,H' b⊂(.pq (ps++more))
section
variable{fs fs' ex ex':L7}{H H1 H2:Hp}{h h1 h2 h':Heap}{a x e:Addr}{o:HO}
def Un.any(u:Un fs ex H H1 h h1)(q:h.get? b⊂ob)(n:H b=none)(c:b∉ex):∃d,h1.get? b=some {ob with slots:=d}:=by
 by_cases a:b∈fs
 .exact u.slot b ob q n a c
 .exact#[ob.slots,u.keep b ob q n a c]
def Un.kept(k:∀b u,h.get? b⊂u->h'.get? b⊂u):Un fs ex H H h h':=
 #[λb a q j j j=>k b a q,λb a q j j j=>#[a.slots,k b a q],λj j j n j=>n,λb a q j=>#[a,k b a q],λj j q=>q,λj j j q=>q,λj c q=>#[#[],by rw[q];simp]]
def Un.refl:Un fs ex H H h h:=Un.kept λj j q=>q
def Un.laid(k:∀b u,h.get? b⊂u->h'.get? b⊂u)(d:h.objs.size<=a)(c:H a=none):Un fs ex H (upd H a o) h h' where
 keep:=λb u q j j j=>k b u q
 slot:=λb u q j j j=>#[u.slots,k b u q]
 free:=λb u q n j=>by rw[jh (vE (Nat.lt_of_lt_of_le (vI q) d))];rwa[n]
 there:=λb u q j=>#[u,k b u q]
 dF:=λb e q=>by rw[jh (je q c)];rwa[q]
 gS:=λb u e q=>by rw[jh (je q c)];rwa[q]
 iO:=λb f q=>#[#[],by rw[jh (je q c),q];simp]
def Un.write(c:sV (H x))(j:e=x\/H e⊂.own x)(k:∀b u,b≠e->h.get? b⊂u->h'.get? b⊂u)(d:∃u,h'.get? e⊂u):Un fs ex H (upd H x o) h h':=by
 have i:∀b,H b=none->b≠x:=λb n z=>by subst z;rw[n]at c;rwa[c]
 have g:∀b,H b=none->b≠e:=λb n z=>by
  subst z;rcases j with r | r
  .exact i b n r
  .rw[n]at r;cases r
 have f:∀b u,H b⊂u->¬sV (some u)->b≠x:=λb u q l z=>by subst z;rw[q]at c;rwa[l c]
 refine#[λb u q n Z Z=>k b u (g b n) q,λb u q n Z Z=>#[u.slots,k b u (g b n) q],λb u q n Z=>by rw[jh (i b n)];rwa[n],λb u q Z=>?_,
  λb m q=>by rw[jh (f b _ q λz=>z)];rwa[q],λb u m q=>by rw[jh (f b _ q λz=>z)];rwa[q],λb p q=>#[#[],by rw[jh (f b _ q λz=>z),q];simp]]
 by_cases a:b=e
 .subst a;rwa[d]
 .exact#[u,k b u a q]
end
noncomputable def za(h:Heap)(H:Hp):L7:=(List.range h.objs.size).filter λa=>(H a).isSome
noncomputable def lB(h:Heap)(H:Hp):Heap:=PySem.W.hideAll h (za h H)
def Gf(h:Heap)(H:Hp):(lB h H).objs.size=h.objs.size:=PySem.W.hideAll_size _ _
def HB{H:Hp}(e:h.get? b⊂o)(n:H b=none):(lB h H).get? b⊂o:=
 PySem.W.hideAll_get _ e λa=>by
  have q:(H b).isSome=true:=(vP.mp a).2;rw[n]at q;simp at q
def Lw{H:Hp}(e:(lB h H).get? b⊂o):h.get? b⊂o/\H b=none:=by
 have a:h.get? b⊂o:=PySem.W.of_hideAll (za h H) e;erw[a,?_];cases q:H b with
 | none=>rfl
 | some x=>
  have c:b∈za h H:=vP.mpr #[v4.mpr (vI a),by simp[q]];have z:(lB h H).get? b=none:=PySem.W.hideAll_none (za h H) c;rw[z]at e;cases e
structure Mod(K:cp)(mg:Nw)(base:Heap):Prop where
 sJ:K.In base
 glob:base.Ns mainGlobals mg
 blt:∃mb,base.Ns builtinsNs mb/\∀x:Str,x≠"__name__"->mb x=bootBuiltins x
 nolimit:base.NoLimit
structure Cx where
 prog:Program
 w:World
 K:cp
 mg:Str->Option Value
 base:Heap
 A:Around
 N:L8
 s₀:Shared
 H₀:Hp
 env:Env
 outer:List Env
 stack:List Env
 ex:L7
 fn:Str->Bool
 calm:Bool
 pn:List (Addr×Obj)
 xe:Nz
noncomputable def fc(l:Nr):L7:=l.filterMap (·.frame)
noncomputable abbrev Cx.fs(X:Cx):L7:=fc X.outer
def tj(sc:Scope)(x:Str):Prop:=sc.names.lookup x⊂.local\/sc.names.lookup x⊂.cell\/sc.names.lookup x⊂.free
def Loc(sc:Scope)(x:Str):Prop:=sc.names.lookup x⊂.local\/sc.names.lookup x⊂.cell
def Look(env:Env)(h:Heap)(m:Nw)(x:Str)(u:Value):Prop:=
 (env.kindOf x⊂.local/\m x⊂u)\/((env.kindOf x⊂.cell\/env.kindOf x⊂.free)/\∃c,env.cells.lookup x⊂c/\h.IsCell c (some u))
structure Cx.Ok(X:Cx):Prop where
 mod:Mod X.K X.mg X.base
 kind:X.env.scope.kind = .function
 glob:X.env.globals=mainGlobals
 blt:X.env.builtins=builtinsNs
 above:X.s₀.heap.objs.size<=X.env.locals
 inj:∀x y c,X.env.cells.lookup x⊂c->X.env.cells.lookup y⊂c->x=y
 has:∀x,(X.env.kindOf x⊂.cell\/X.env.kindOf x⊂.free)->∃c,X.env.cells.lookup x⊂c
 rO:∀x c,X.fn x=true->X.env.cells.lookup x⊂c->X.s₀.heap.objs.size<=c
 hd:X.calm=true->X.A.handled=none
 frames:X.A.frames⊂X.stack
 oH:X.stack=X.outer\/(X.stack=X.env::X.outer/\X.env.frame⊂X.env.locals)
 uW:∀b∈X.ex,b≠X.env.locals/\∀x c,X.env.cells.lookup x⊂c->c≠b
 bs:∀b o,X.base.get? b⊂o->X.s₀.heap.get? b⊂o/\X.H₀ b=none
 nU:X.base.objs.size<=X.s₀.heap.objs.size
 mD:∀b o,X.base.get? b⊂o->b∉X.ex
 mZ:∀b∈X.ex,b∉X.fs
 gA:X.s₀.heap.FunFrames X.base X.outer
 oS:∀b∈X.fs,X.H₀ b=none
structure Inv(X:Cx)(pins:Ny)(σ:List N3)(H:Hp)(s:Shared):Prop where
 ok:X.Ok
 os:s.os=X.s₀.os
 bare:AllBare s.gens
 base:Un X.fs X.ex X.H₀ H X.s₀.heap s.heap
 loc:∃m,s.heap.Ns X.env.locals m/\∀(i:Nat) (x:Str) (v:V),X.N[i]?⊂x->σ[i]?⊂(some v)->tj X.env.scope x->∃u,RelV v u/\Look X.env s.heap m x u
 cell:∀x c,X.env.cells.lookup x⊂c->∃v,s.heap.IsCell c v
 free:H X.env.locals=none
 dM:∀x c,X.env.cells.lookup x⊂c->H c=none
 pin:∀p∈X.pn++pins,s.heap.get? p.1⊂p.2/\H p.1=none/\p.1≠X.env.locals/\p.1∉X.fs/\∀v,p.2.data≠.cell v
 cv:eX X.prog X.w H s.heap
 len:⇑σ=X.N.length
section
variable{X:Cx}{pins:Ny}{σ:List N3}{H H':Hp}{s:Shared}{h':Heap}
def Cx.Ok.BG(c:X.Ok)(e:X.base.get? b⊂o):b∉X.fs:=λa=>by
 have:=(c.gA.mem a).1;rw[e]at this;cases this
def Inv.bs(I:Inv X pins σ H s):∀b o,X.base.get? b⊂o->s.heap.get? b⊂o/\H b=none:=λb o e=>
 #[I.base.keep b o (I.ok.bs b o e).1 (I.ok.bs b o e).2 (I.ok.BG e) (I.ok.mD b o e),I.base.free b o (I.ok.bs b o e).1 (I.ok.bs b o e).2 (I.ok.mD b o e)]
def Inv.bk(I:Inv X pins σ H s):∀b o,X.base.get? b⊂o->s.heap.get? b⊂o:=λb o e=>(I.bs b o e).1
def Inv.mod(I:Inv X pins σ H s):Mod X.K X.mg X.base:=I.ok.mod
def Inv.fT(I:Inv X pins σ H s):X.K.In s.heap:=I.ok.mod.sJ.keeps I.bk
def Inv.lt(I:Inv X pins σ H s):X.env.locals<s⁻¹:=let ⟨_,hn,_⟩:=I.loc;hn.lt
def Inv.sz(I:Inv X pins σ H s):X.s₀.heap.objs.size<=s⁻¹:=vW I.ok.above (vY I.lt)
def Inv.BH(I:Inv X pins σ H s)(h:s⁻¹<=a):a∉X.fs:=λb=>by
 let⟨q,o,c,q⟩:=I.ok.gA.mem b;rwa[uf (Nat.lt_of_lt_of_le (vI c) (vW I.sz h)) (Nat.lt_irrefl _)]
def Inv.tu(I:Inv X pins σ H s):∀x c,X.env.cells.lookup x⊂c->c≠X.env.locals:=λx c e z=>by
 let⟨v,o,h,g⟩:=I.cell x c e;let⟨m,⟨i,f,d,b,a,q⟩,q⟩:=I.loc
 lia
def Inv.gA(I:Inv X pins σ H s):s.heap.FunFrames X.base X.outer:=by
 have a:∀(l:Nr),(∀b∈fc l,b∈X.fs)->X.s₀.heap.FunFrames X.base l->s.heap.FunFrames X.base l:=by
  intro l
  induction l with
  | nil=>intro q q;trivial
  | cons env r ih=>
   intro g j;let⟨i,⟨L,o,f,k,m,h⟩,n⟩:=j;have c:L∈X.fs:=g L (by unfold fc;rw[filterMap_cons,f];rwa[vq]);let⟨p,e⟩:=I.base.slot L o m (I.ok.oS L c) c λz=>I.ok.mZ L z c
   rwa[i,#[L,_,f,k,e,h],ih (λb d=>g b (by unfold fc;rw[filterMap_cons,f];rwa[vp _ d])) n]
 rwa[a X.outer (λq d=>d) I.ok.gA]
def Inv.stack(I:Inv X pins σ H s):s.heap.FunFrames X.base X.stack:=by
 rcases I.ok.oH with e | ⟨e,a⟩
 .rw[e];rwa[I.gA]
 .rw[e];let⟨m,b,q⟩:=I.loc;erw[.cons (by rw[I.ok.kind];decide) a b ?_ I.gA];rwa[Heap.get?_none_of_le (vW I.ok.nU I.ok.above)]
def Inv.iN(I:Inv X pins σ H s):∀b∈fc X.stack,b∈X.env.locals::X.fs:=λb a=>by
 rcases I.ok.oH with e | ⟨e,c⟩
 .rw[e]at a;rwa[vp _ a]
 .rw[e]at a;unfold fc at a;rw[filterMap_cons,c]at a;rwa[a]
def Inv.ie(I:Inv X pins σ H s):∀b∈fc X.stack,H b=none:=λb a=>by
 rcases mem_cons.mp (I.iN b a)with e | a
 .rw[e];rwa[I.free]
 .let⟨_,o,c,_⟩:=I.ok.gA.mem a;rwa[I.base.free b o c (I.ok.oS b a) λz=>I.ok.mZ b z a]
def Inv.step{g':Array GenState}{t':Nat}{d':Drawn}{ch:L7}(I:Inv X pins σ H s)
  (h:∀b∈ch,(b∈X.ex\/X.s₀.heap.objs.size<=b)/\b≠X.env.locals/\(∀x c,X.env.cells.lookup x⊂c->c≠b)/\∀p∈X.pn++pins,p.1≠b)
  (j:∀b o,b≠X.env.locals->b∉X.fs->b∉ch->s.heap.get? b⊂o->H b=none->h'.get? b⊂o)
  (A:∀b o,b≠X.env.locals->b∈X.fs->b∉ch->s.heap.get? b⊂o->H b=none->∃N,h'.get? b=some {o with slots:=N}) (f:∀b o,b∉ch->s.heap.get? b⊂o->H b=none->H' b=none)
  (C:∀b o,b∉ch->s.heap.get? b⊂o->∃o',h'.get? b⊂o')
  (K:∀b xs,H b⊂.tup xs->H' b⊂.tup xs) (F:∀b o u,H b⊂.gM o u->H' b⊂.gM o u) (J:∀b ps,H b⊂.pq ps->∃more,H' b⊂(.pq (ps++more)))
  (ns:∀m,s.heap.Ns X.env.locals m->h'.Ns X.env.locals m) (M:eX X.prog X.w H' h') (U:AllBare g') :
  Inv X pins σ H' {s with heap:=h',gens:=g',drawn:=d',toks:=t'}:=by
 have G:∀b o,X.s₀.heap.get? b⊂o->b≠X.env.locals:=λb o e=>vE (Nat.lt_of_lt_of_le (vI e) I.ok.above)
 have y:∀b o,X.s₀.heap.get? b⊂o->b∉X.ex->b∉ch:=λb o e a B=>by
  rcases(h b B).1 with z | z
  .exact a z
  .exact uf (Nat.lt_of_lt_of_le (vI e) z) (Nat.lt_irrefl _)
 have g:∀x c,X.env.cells.lookup x⊂c->∀v,s.heap.IsCell c v->h'.IsCell c v:=λx c e v ⟨o,D,L⟩=>by
  have t:c∉ch:=λz=>(h c z).2.2.1 x c e rfl
  by_cases P:c∈X.fs
  .let⟨N,q⟩:=A c o (I.tu x c e) P t D (I.dM x c e);rwa[_,q,L]
  .exact#[o,j c o (I.tu x c e) P t D (I.dM x c e),L]
 erw[I.ok,I.os,U,#[λb o e n B a=>?_,λb o e n B a=>?_,λb o e n a=>?_,λb o e a=>?_,λb xs e=>K b xs (I.base.dF b xs e),λb o xs e=>F b o xs (I.base.gS b o xs e),λb ps e=>?_],?_,λx c e=>?_,?_,λx c e=>?_,λp Q=>?_,M,I.len]
 .exact j b o (G b o e) B (y b o e a) (I.base.keep b o e n B a) (I.base.free b o e n a)
 .let⟨N,w⟩:=I.base.slot b o e n B a;let⟨O,E⟩:=A b _ (G b o e) B (y b o e a) w (I.base.free b o e n a);rwa[O,E]
 .let⟨o',w⟩:=I.base.there b o e a;rwa[f b o' (y b o e a) w (I.base.free b o e n a)]
 .let⟨o',w⟩:=I.base.there b o e a;rwa[C b o' (y b o e a) w]
 .let⟨Z,w⟩:=I.base.iO b ps e;let⟨m2,E⟩:=J b _ w;rwa[Z++m2,by rw[E,Array.append_assoc]]
 .let⟨m,Y,W⟩:=I.loc;erw[m,ns m Y,λi x v w E T=>?_];let⟨u,r,l⟩:=W i x v w E T;erw[u,r,?_];rcases l with l | ⟨k,c,e,z⟩
  .exact .inl l
  .exact .inr #[k,c,e,g x c e _ z]
 .let⟨v,z⟩:=I.cell x c e;rwa[v,g x c e v z]
 .let⟨m,⟨o,_,_,D,_⟩,_⟩:=I.loc;rwa[f _ o (λz=>(h _ z).2.1 rfl) D I.free]
 .let⟨v,o,D,L⟩:=I.cell x c e;rwa[f c o (λz=>(h c z).2.2.1 x c e rfl) D (I.dM x c e)]
 .let⟨e,n,R,S,d⟩:=I.pin p Q;have t:p.1∉ch:=λz=>(h p.1 z).2.2.2 p Q rfl
  rwa[j p.1 p.2 R S t e n,f p.1 p.2 t e n,R,S,d]
def Inv.un{t':Nat}(I:Inv X pins σ H s)(u:Un X.fs [] H H' s.heap h')(g:eX X.prog X.w H' h'):Inv X pins σ H' {s with heap:=h',toks:=t'}:=by
 let⟨m,⟨o,p,l,h,r⟩,q⟩:=id I.loc;let⟨v,i⟩:=u.any h I.free (by simp);exact I.step (g':=s.gens) (d':=s.drawn) (ch:=[]) (λq z=>nomatch z) (λb o q f q e n=>u.keep b o e n f (by simp)) (λb o q f q e n=>u.slot b o e n f (by simp)) (λb o q e n=>u.free b o e n (by simp)) (λb o q e=>u.there b o e (by simp)) u.dF u.gS u.iO (λq j=>by
  let⟨t,d,c,a,k⟩:=j;rw[h]at a;cases a;rwa[_,d,c,i,k]) g I.bare
def Inv.call{g':Array GenState}{t':Nat}{d':Drawn}{ch:L7}(I:Inv X pins σ H s)(u:Un (fc X.stack) ch H H' s.heap h')(j:eX X.prog X.w H' h')(q:AllBare g')
  (d:∀b∈ch,(b∈X.ex\/X.s₀.heap.objs.size<=b)/\b≠X.env.locals/\(∀x c,X.env.cells.lookup x⊂c->c≠b)/\∀p∈X.pn++pins,p.1≠b) :
  Inv X pins σ H' {s with heap:=h',gens:=g',drawn:=d',toks:=t'}:=by
 let⟨m,⟨o,y,w,k,r⟩,Z⟩:=id I.loc;let⟨C,i⟩:=u.any k I.free λz=>(d _ z).2.1 rfl
 exact I.step (ch:=ch) d (λb o i l a e n=>u.keep b o e n (λz=>(mem_cons.mp (I.iN b z)).elim i l) a) (λb o Z Z a e n=>u.any e n a) (λb o a e n=>u.free b o e n a) (λb o a e=>u.there b o e a) u.dF u.gS u.iO (λA t=>by
  let⟨B,h,g,f,v⟩:=t;rw[k]at f;cases f;rwa[_,h,g,i,v]) j q
def Inv.turned{t':Nat}{it:Addr}(I:Inv X pins σ H s)(k:∀b o,b≠it->s.heap.get? b⊂o->h'.get? b⊂o)(y:H it=none)(f:it≠X.env.locals)
  (i:it∈X.ex\/X.s₀.heap.objs.size<=it) (j:∀x c,X.env.cells.lookup x⊂c->c≠it) (l:∀p∈X.pn++pins,p.1≠it):Inv X pins σ H {s with heap:=h',toks:=t'}:=by
 have d:∀b u,H b⊂u->b≠it:=λb u e z=>by rw[z,y]at e;cases e
 refine I.step (g':=s.gens) (d':=s.drawn) (ch:=[it]) (λb t=>?_) (λb o Z Z a e Z=>k b o (λz=>a (by simp[z])) e) (λb o Z Z a e Z=>#[o.slots,k b o (λz=>a (by simp[z])) e]) (λZ Z Z Z n=>n)
  (λb o a e=>#[o,k b o (λz=>a (by simp[z])) e]) (λZ Z e=>e) (λZ Z Z e=>e) (λb B e=>#[#[],by rw[e];simp]) (λm w=>?_) (λb u e=>?_) I.bare
 .have e:b=it:=by simpa using t
  subst e;rwa[i,f,j,l]
 .let⟨o,h,g,A,r⟩:=w;rwa[o,h,g,k _ o (Ne.symm f) A,r]
 .refine(I.cv b u e).hW (λc v a q=>k c v ?_ q) (λZ q=>q) λZ Z q=>q
  rcases a with z | z
  .rw[z];rwa[d b u e]
  .exact d c _ z
def Inv.tok(I:Inv X pins σ H s)(t:Nat):Inv X pins σ H {s with toks:=t}:=I.un (h':=s.heap) (t':=t) Un.refl I.cv
def Inv.kept(I:Inv X pins σ H s)(k:∀b u,s.heap.get? b⊂u->h'.get? b⊂u):Inv X pins σ H {s with heap:=h',toks:=t'}:=I.un (Un.kept k) (I.cv.kept k)
def Inv.laid(I:Inv X pins σ H s)(k:∀b u,s.heap.get? b⊂u->h'.get? b⊂u)(c:s⁻¹<=a)(d:cm X.prog X.w (upd H a o) h' a o) :
  Inv X pins σ (upd H a o) {s with heap:=h',toks:=t'}:=I.un (Un.laid k c (I.cv.fresh c)) (I.cv.laid k c d)
def Inv.write(I:Inv X pins σ H s)(f:sV (H x))(d:e=x\/H e⊂.own x)(k:∀b u,b≠e->s.heap.get? b⊂u->h'.get? b⊂u)(a:∃u,h'.get? e⊂u)
  (c:cm X.prog X.w (upd H x o) h' x o):Inv X pins σ (upd H x o) {s with heap:=h',toks:=t'}:=I.un (Un.write f d k a) (I.cv.write f d k a c)
def Inv.weak(I:Inv X pins σ H s)(d:S'.length=⇑σ)(w:∀(i:Nat) v,S'[i]?⊂(some v)->σ[i]?⊂(some v)):Inv X pins S' H s:=
 #[I.ok,I.os,I.bare,I.base,let ⟨m,hn,hl'⟩:=I.loc;#[m,hn,λi x v a b c=>hl' i x v a (w i v b) c],I.cell,I.free,I.dM,I.pin,I.cv,d.trans I.len]
def Inv.pins_of(I:Inv X pins σ H s)(h:∀p∈pins',s.heap.get? p.1⊂p.2/\H p.1=none/\p.1≠X.env.locals/\p.1∉X.fs/\∀v,p.2.data≠.cell v):Inv X pins' σ H s:=
 #[I.ok,I.os,I.bare,I.base,I.loc,I.cell,I.free,I.dM,λp a=>(vh.mp a).elim (λz=>I.pin p (mem_append_left _ z)) (h p),I.cv,I.len]
def WD{N:L8}(e:N.Nodup){i j:Nat}{x:Str}(a:N[i]?⊂x)(b:N[j]?⊂x):i=j:=by
 let⟨f,c⟩:=vx.mp a;let⟨g,d⟩:=vx.mp b;rwa[(List.getElem_inj e).mp (c.trans d.symm)]
def Xk{M:Model}{A:Around}{E:Nz}{i:Nat}{x:Str}{v:V}{u:Value}{Q:Unit->Shared->Prop}(I:Inv X pins σ H s)(hN:X.N.Nodup)(hi:X.N[i]?⊂x)(t:Loc X.env.scope x)(r:RelV v u)
  (h:∀s',Inv X pins (σ.set i (some v)) H s'->(∃a,Heap.SameBut a s.heap s'.heap/\(a=X.env.locals\/X.env.cells.lookup x⊂a))->Q () s') (hf:X.fn x=true\/X.env.scope.names.lookup x⊂.local:=by and_intros):wpAny M A (storeName X.env x u) Q E s:=by
 let⟨m,hn,hl⟩:=id I.loc;have P:(X.env.scope.kind == .class||(X.env.scope.kind == .module&&X.env.locals != X.env.globals))=false:=by rw[I.ok.kind];rfl
 have C:i<⇑σ:=by rw[I.len];rwa[(vx.mp hi).1]
 have F:=I.tu;have l:∀{a:Addr} {L:Heap},(∃o,s.heap.get? a⊂o/\H a=none)->Heap.SameBut a s.heap L->eX X.prog X.w H L:=λ{a L} ha f b ob e=>by
  let⟨_,_,Z⟩:=ha;erw[(I.cv b ob e).hW (λc W w q=>(f.2 c ?_).trans q) (λ_ q=>q) λ_ _ q=>q]
  lia
 rcases t with D | D
 .refine wpAny_storeName_local D hn (λL a0 f=>?_) P;let⟨oL,_,_,a1,_⟩:=id hn;refine h _ #[I.ok,I.os,I.bare,#[λb o e n G t=>?_,λb o e n G t=>?_,I.base.free,λb o e t=>?_,I.base.dF,I.base.gS,I.base.iO],#[_,a0,λj y v' g B Y=>?_],λy c e=>?_,I.free,I.dM,λp hp=>?_,l #[oL,a1,I.free] f,#v[I.len]] #[_,f,.inl rfl]
  .exact(f.2 b (vE (Nat.lt_of_lt_of_le (vI e) I.ok.above))).trans (I.base.keep b o e n G t)
  .let⟨sl,g⟩:=I.base.slot b o e n G t;rwa[sl,(f.2 b (vE (Nat.lt_of_lt_of_le (vI e) I.ok.above))).trans g]
  .let⟨o',g⟩:=I.base.there b o e t;rwa[o',(f.2 b (vE (Nat.lt_of_lt_of_le (vI e) I.ok.above))).trans g]
  .by_cases K:j=i
   .subst K;rw[hi]at g;cases g;rw[List.getElem?_set_self C]at B;cases B;rwa[u,r,.inl #[D,by simp]]
   .rw[List.getElem?_set_ne (Ne.symm K)]at B;let⟨u',r',q⟩:=hl j y v' g B Y;erw[u',r',?_];rcases q with⟨k,e⟩ | ⟨k,c,e,z⟩
    .refine .inl #[k,?_];have:y≠x:=λe=>K (WD hN g (e▸hi))
     simp[this,e]
    .exact .inr #[k,c,e,z.sameBut f (F y c e)]
  .let⟨W,z⟩:=I.cell y c e;rwa[W,z.sameBut f (F y c e)]
  .let⟨e,n,U,nf,d⟩:=I.pin p hp;rwa[(f.2 p.1 U).trans e,n,U,nf,d]
 .have J:X.fn x=true:=by
   rcases hf with z | z
   .exact z
   .rw[z]at D;cases D
  let⟨c,w⟩:=I.ok.has x (.inl D);let⟨W,z⟩:=I.cell x c w;erw[wpAny_storeName_cell I.ok.kind D w z (λL N f=>?_)];let⟨oc,R,S⟩:=id z;erw[h {s with heap:=L} #[I.ok,I.os,I.bare,#[λb o e n G t=>?_,λb o e n G t=>?_,I.base.free,λb o e t=>?_,I.base.dF,I.base.gS,I.base.iO],#[m,hn.sameBut f (Ne.symm (F x c w)),λj y v' g B Y=>?_],λy T e=>?_,I.free,I.dM,λp hp=>?_,l #[oc,R,I.dM x c w] f,#v[I.len]] #[c,f,.inr w]]
  .exact(f.2 b (vE (Nat.lt_of_lt_of_le (vI e) (I.ok.rO x c J w)))).trans (I.base.keep b o e n G t)
  .let⟨sl,g⟩:=I.base.slot b o e n G t;rwa[sl,(f.2 b (vE (Nat.lt_of_lt_of_le (vI e) (I.ok.rO x c J w)))).trans g]
  .let⟨o',g⟩:=I.base.there b o e t;rwa[o',(f.2 b (vE (Nat.lt_of_lt_of_le (vI e) (I.ok.rO x c J w)))).trans g]
  .by_cases K:j=i
   .subst K;rw[hi]at g;cases g;rw[List.getElem?_set_self C]at B;cases B;rwa[u,r,.inr #[.inl D,c,w,N]]
   .rw[List.getElem?_set_ne (Ne.symm K)]at B;let⟨u',r',q⟩:=hl j y v' g B Y;erw[u',r',?_];rcases q with q | ⟨k,T,e,z'⟩
    .exact .inl q
    .refine .inr #[k,T,e,z'.sameBut f ?_];rintro rfl;rwa[K (WD hN g (I.ok.inj _ _ _ e w▸hi))]
  .by_cases O:T=c
   .subst O;rwa[_,N]
   .let⟨w2,z2⟩:=I.cell y T e;rwa[w2,z2.sameBut f O]
  .let⟨e,n,U,nf,d⟩:=I.pin p hp;erw[(f.2 p.1 ?_).trans e,n,U,nf,d];intro q;rw[q,R]at e;have q':oc=p.2:=vL e;rwa[d W (by rw[<-q'];rwa[S])]
def Ki{E:Nz}{Q:Unit->Shared->Prop}(I:Inv X pins σ H s)(b:X.N.Nodup)(hi:X.N[i]?⊂x)(d:Loc X.env.scope x)(r:RelV v u)
  (h:∀s',Inv X pins (σ.set i (some v)) H s'->Q () s') (c:X.fn x=true\/X.env.scope.names.lookup x⊂.local:=by and_intros):wpAny M A (storeName X.env x u) Q E s:=
 Xk I b hi d r (λs' a q=>h s' a) c
def Inv.pJ(I:Inv X pins σ H s)(g:s'.os=s.os)(u:Un (fc X.stack) ch H H' s.heap s'.heap)(d:eX X.prog X.w H' s'.heap)(f:AllBare s'.gens)
  (a:∀b∈ch,(b∈X.ex\/X.s₀.heap.objs.size<=b)/\b≠X.env.locals/\(∀x c,X.env.cells.lookup x⊂c->c≠b)/\∀p∈X.pn++pins,p.1≠b):Inv X pins σ H' s':=by
 let⟨i,g',d',t',h⟩:=s';have e:h=s.os:=g;subst e;rwa[I.call (g':=g') (t':=t') (d':=d') u d f a]
end
noncomputable abbrev XK:=Value->Option Addr->Hp->Prop
noncomputable abbrev St:=List N3
noncomputable abbrev VK:=V->Hp->Prop
noncomputable abbrev TE:=St->Hp->VK->Prop
noncomputable abbrev TT:=St->Hp->(Bool->Hp->Prop)->Prop
noncomputable abbrev TA:=St->Hp->(N2->Hp->Prop)->Prop
structure Ends where
 nx:St->Hp->Prop
 rt:VK
 bk:St->Hp->Prop:=λ_ _=>False
 ct:St->Hp->Prop:=λ_ _=>False
noncomputable abbrev TS:=Ends->St->Hp->Prop
def EP(X:Cx)(pins:Ny)(σ:St)(Q:VK)(u:Value)(s':Shared):Prop:=∃v H',Inv X pins σ H' s'/\RelV v u/\Q v H'
def TP(X:Cx)(pins:Ny)(σ:St)(Q:Bool->Hp->Prop)(b:Bool)(s':Shared):Prop:=∃H',Inv X pins σ H' s'/\Q b H'
def AP(X:Cx)(pins:Ny)(σ:St)(Q:N2->Hp->Prop)(us:L9)(s':Shared):Prop:=∃vs H',Inv X pins σ H' s'/\Vals vs us/\Q vs H'
def SP(X:Cx)(pins:Ny)(D:Ends)(f:Flow)(s':Shared):Prop:=
 match f with
 | .next=>∃S' H',Inv X pins S' H' s'/\D.nx S' H'
 | .brk=>∃S' H',Inv X pins S' H' s'/\D.bk S' H'
 | .cont=>∃S' H',Inv X pins S' H' s'/\D.ct S' H'
 | .ret u=>∃v S' H',Inv X pins S' H' s'/\RelV v u/\D.rt v H'
def PE(X:Cx)(e:Expr)(t:TE):Prop:=
 ∀(pins:Ny) (s:Shared) (σ:St) (H:Hp) (Q:VK),Inv X pins σ H s->t σ H Q->wpAny (model X.prog X.w) X.A (eval e X.env) (EP X pins σ Q) X.xe s
def PT(X:Cx)(e:Expr)(t:TT):Prop:=
 ∀(pins:Ny) (s:Shared) (σ:St) (H:Hp) (Q:Bool->Hp->Prop),Inv X pins σ H s->t σ H Q->wpAny (model X.prog X.w) X.A (isTrue e X.env (eval e X.env)) (TP X pins σ Q) X.xe s
def PW(X:Cx)(e:Expr)(t:TT):Prop:=
 ∀(whole:Sem Value) (pins:Ny) (s:Shared) (σ:St) (H:Hp) (Q:Bool->Hp->Prop),Inv X pins σ H s->t σ H Q->wpAny (model X.prog X.w) X.A (isTrue e X.env whole) (TP X pins σ Q) X.xe s
def PW.pt(h:PW X e t):PT X e t:=h _
def PA(X:Cx)(es:Nt)(t:TA):Prop:=
 ∀(pos:Pos) (pins:Ny) (s:Shared) (σ:St) (H:Hp) (Q:N2->Hp->Prop),Inv X pins σ H s->t σ H Q->wpAny (model X.prog X.w) X.A (spliced (backTo pos (starEach es X.env))) (AP X pins σ Q) X.xe s
def PS(X:Cx)(st:Stmt)(t:TS):Prop:=
 ∀(pins:Ny) (s:Shared) (σ:St) (H:Hp) (D:Ends),Inv X pins σ H s->t D σ H->wpAny (model X.prog X.w) X.A (exec st X.env) (SP X pins D) X.xe s
def lu(X:Cx)(st:List Stmt)(t:TS):Prop:=
 ∀(pins:Ny) (s:Shared) (σ:St) (H:Hp) (D:Ends),Inv X pins σ H s->t D σ H->wpAny (model X.prog X.w) X.A (execs st X.env) (SP X pins D) X.xe s
def cC{c:Type}{t:Sem c}{Q b:c->Shared->Prop}{M:Model}{A:Around}{E:Nz}{s:Shared}(h:wpAny M A t Q E s)(d:∀a s,Q a s->b a s):wpAny M A t b E s:=wpAny_mono h d λq q x=>x
section
variable{X:Cx}
def eN(i:Nat):TE:=λσ H Q=>∃v,σ[i]?⊂(some v)/\Q v H
def tC(v:V):TE:=λq H Q=>Q v H
def NG(n:X.N[i]?⊂x)(t:tj X.env.scope x)(j:(x==("__debug__" : Str))=false:=by decide)(g:(x==("__classdict__" : Str))=false:=by decide):PE X (.Name x pos) (eN i):=by
 intro f s w H Q I h;let⟨v,e,h⟩:=h;let⟨m,q,o⟩:=I.loc;let⟨u,r,l⟩:=o i x v n e t;have b:EP X f w Q u s:=#[v,H,I,r,h]
 rcases l with⟨d,p⟩ | ⟨d,c,k,a⟩
 .exact wpAny_Name (wpAny_loadName_local I.ok.kind d q p b) j
 .rcases d with d | d
  .exact wpAny_Name (wpAny_loadName_cell I.ok.kind d k a b) j
  .exact wpAny_Name (wpAny_loadName_free I.ok.kind d k a b g) j
def jd{i j pos}:PE X (.Constant (.int i) j pos) (tC (.int i)):=λq q q H q I h=>wpAny_Constant_int #[.int i,H,I.tok _,#[_,rfl],h]
def Z5{b j pos}:PE X (.Constant (.bool b) j pos) (tC (.bl b)):=λq q q H q I h=>Constant_bool #[.bl b,H,I,rfl,h]
def uY{j pos}:PE X (.Constant .none j pos) (tC .cV):=λq q q H q I h=>Constant_none #[.cV,H,I,rfl,h]
def jG{x j pos}:PE X (.Constant (.str x) j pos) (tC (.str x)):=λq q q H q I h=>Calls.Constant_str #[.str x,H,I.tok _,#[_,rfl],h]
def Gl(X:Cx)(x:Str):Prop:=X.env.kindOf x⊂.globalImplicit
def kK{E:Nz}{d:St}{H:Hp}{Q:Nz}(I:Inv X pins d H s)(b:Gl X x)(c:X.mg x⊂u)(h:Q u s)
  (a:(x==("__debug__" : Str))=false:=by decide):wpAny (model X.prog X.w) X.A (eval (.Name x pos) X.env) Q E s:=
 Calls.Name_function_global I.ok.kind b (Calls.loadGlobal_global (by rw[I.ok.glob];rwa[I.mod.glob.keeps I.bk]) c h) a
def Zd{E:Nz}{i:St}{H:Hp}{Q:Nz}(I:Inv X pins i H s)(d:Gl X x)(e:X.mg x=none)(g:bootBuiltins x⊂u)(h:Q u s)
  (f:x≠"__name__":=by decide) (c:(x==("__debug__" : Str))=false:=by decide):wpAny (model X.prog X.w) X.A (eval (.Name x pos) X.env) Q E s:=by
 let⟨j,a,b⟩:=I.mod.blt;rwa[Calls.Name_function_global I.ok.kind d (Calls.loadGlobal_builtin (by rw[I.ok.glob];rwa[I.mod.glob.keeps I.bk]) e (by rw[I.ok.blt];rwa[a.keeps I.bk]) ((b x f).trans g) h) c]
def YQ(b:Gl X x)(c:X.mg x⊂u)(r:RelV v u)(a:(x==("__debug__" : Str))=false:=by decide):PE X (.Name x pos) (tC v):=
 λq q q H q I h=>kK I b c #[v,H,I,r,h] a
def YO(b:Gl X x)(c:X.mg x=none)(e:bootBuiltins x⊂u)(r:RelV v u)(d:x≠"__name__":=by decide)(a:(x==("__debug__" : Str))=false:=by decide):PE X (.Name x pos) (tC v):=
 λq q q H q I h=>Zd I b c e #[v,H,I,r,h] d a
variable{a b:Expr}{ta tb:TE}{pos:Pos}
def PC(X:Cx)(op:CmpOp)(a b:Expr)(t:TE):Prop:=
 ∀(pins:Ny) (s:Shared) (σ:St) (H:Hp) (Q:VK),Inv X pins σ H s->t σ H Q->
  wpAny (model X.prog X.w) X.A (eval a X.env) (λv s₁=>wpAny (model X.prog X.w) X.A (eval b X.env) (λu s₂=>wpAny (model X.prog X.w) X.A (compareOp op v u) (EP X pins σ Q) X.xe s₂) X.xe s₁) X.xe s
def tB(t:TE):TT:=λσ H Q=>t σ H λx H1=>∃c,x = .bl c/\Q c H1
def MF{op:CmpOp}{t:TE}(h:PC X op a b t)(f:behindInMarks op b=false:=by first | exact nobehind _ nofun nofun | rfl):PT X (.Compare a [op] [b] pos) (tB t):=by
 intro e s n H Q I k;erw[wpAny_isTrue_Compare1 (cC (h e s n H _ I k) λv o f=>cC f λu p j=>cC j λc r ⟨x,g,i,m,l⟩=>?_) f];let⟨d,rfl,q⟩:=l;cases m;rwa[wpAny_truthy_bool #[g,i,q]]
def ZV{e:Expr}{t:TE}(h:PE X e t)(g:∀a,isTrue e X.env a=(do let v <-a;standAt e.pos;holding [v] (truthy v)):=by intro Z;rfl):PT X e (tB t):=by
 intro b s l H Q I i;erw[isTrue_plain (cC (h b s l H _ I i) λv m z_=>?_) (g _)];obtain⟨x,c,f,k,j⟩:=z_;let⟨d,rfl,q⟩:=j;cases k;rwa[wpAny_truthy_bool #[c,f,q]]
variable{tA tB':TT}{rest:Nt}
def uv(t u:TT):TT:=λσ H Q=>t σ H λc H1=>if c=true then u σ H1 Q else Q false H1
def E1(t u:TT):TT:=λσ H Q=>t σ H λc H1=>if c=true then Q true H1 else u σ H1 Q
def uF(t:TT):TT:=λσ H Q=>t σ H λc H1=>Q (!c) H1
def QJ(d:PT X a tA):PW X (.BoolOp .And [a] pos) tA:=by
 intro i b s f H Q I h;erw[isTrue_and (cC (d b s f H Q I h) λc g e=>?_)];cases c with
 | true=>rwa[isTrue_and_nil e]
 | false=>rwa[e]
def K1(d:PT X a tA):PW X (.BoolOp .Or [a] pos) tA:=by
 intro i b s f H Q I h;erw[isTrue_or (cC (d b s f H Q I h) λc g e=>?_)];cases c with
 | false=>rwa[isTrue_or_nil e]
 | true=>rwa[e]
def QY(j:PT X a tA)(k:PW X (.BoolOp .And (b::rest) pos) tB'):PW X (.BoolOp .And (a::b::rest) pos) (uv tA tB'):=by
 intro m d s i H Q I h;erw[isTrue_and (cC (j d s i H _ I h) λc l z_=>?_)];obtain⟨e,f,g⟩:=z_;cases c with
 | true=>rwa[k m d l i e Q f g]
 | false=>rwa[e,f,g]
def Xh(j:PT X a tA)(k:PW X (.BoolOp .Or (b::rest) pos) tB'):PW X (.BoolOp .Or (a::b::rest) pos) (E1 tA tB'):=by
 intro m d s i H Q I h;erw[isTrue_or (cC (j d s i H _ I h) λc l z_=>?_)];obtain⟨e,f,g⟩:=z_;cases c with
 | true=>rwa[e,f,g]
 | false=>rwa[k m d l i e Q f g]
def yv(e:PT X a tA):PT X (.UnaryOp .Not a pos) (uF tA):=by
 intro b s f H Q I h;rwa[isTrue_not (e b s f H (λc d=>Q (!c) d) I h)]
def pY(ta tb:TE):TE:=λσ H Q=>ta σ H λx H1=>∃c,x = .bl c/\if c=true then tb σ H1 Q else Q (.bl false) H1
def rj(ta:TE):TE:=λσ H Q=>ta σ H λx H1=>∃c,x = .bl c/\Q (.bl (!c)) H1
def Bb{op}(h:PE X a t):PE X (.BoolOp op [a] pos) t:=λb s d H Q I c=>BoolOp_one (h b s d H Q I c)
def A7(j:PE X a ta)(k:PE X (.BoolOp .And (b::rest) pos) tb):PE X (.BoolOp .And (a::b::rest) pos) (pY ta tb):=by
 intro d s i H Q I h;erw[BoolOp_and (cC (j d s i H _ I h) λv m z_=>?_)];obtain⟨x,f,g,l,e⟩:=z_;let⟨c,rfl,e⟩:=e;cases l;erw[wpAny_truthy_bool ?_];cases c with
 | true=>rwa[k d m i f Q g e]
 | false=>rwa[.bl false,f,g,rfl,e]
def NF(g:PE X a ta):PE X (.UnaryOp .Not a pos) (rj ta):=by
 intro b s j H Q I h;erw[UnaryOp_ (cC (g b s j H _ I h) λv k z_=>?_)];obtain⟨x,e,f,i,d⟩:=z_;let⟨c,rfl,d⟩:=d;cases i;rwa[not_of (wpAny_truthy_bool #[.bl (!c),e,f,rfl,d])]
def EY(t:TT)(ta tb:TE):TE:=λσ H Q=>t σ H λc H1=>if c=true then ta σ H1 Q else tb σ H1 Q
def WJ{c:Expr}(n:PT X c tA)(l:PE X a ta)(m:PE X b tb):PE X (.IfExp c a b pos) (EY tA ta tb):=by
 intro e s f H Q I h;erw[wpAny_IfExp (cC (n e s f H _ I h) λd k z_=>?_)];obtain⟨g,i,j⟩:=z_;cases d with
 | true=>rwa[l e k f g Q i j]
 | false=>rwa[m e k f g Q i j]
end
def bV(K:cp)(H:Hp)(a:Addr)(xs:N2):Prop:=
 Rd H a (.lst xs)\/
  ∃(o:Obj) (its:Array Value) (n:Nat),K.lookup a⊂o/\o.cls = .type "list"/\o.dict=none/\o.data = .seq its n/\its.size<=sizeLine/\Vals xs its.toList
def cw(K:cp)(H:Hp)(a:Addr)(xs:N2):Prop:=
 Rd H a (.tup xs)\/
  ∃(o:Obj) (its:Array Value) (n:Nat),K.lookup a⊂o/\o.cls = .type "tuple"/\o.data = .seq its n/\its.size<=sizeLine/\Vals xs its.toList
noncomputable def Af:Value->N3
 | .none=>some .cV
 | .bool b=>some (.bl b)
 | .int i _=>~~~i
 | .str x _=>some (.str x)
 | .bytes b _=>some (.lO b)
 | .float b _=>some (.pL b)
 | .ref a=>↥a
 | .type n=>some (.ty n)
 | _=>none
def RelV.abs(r:RelV x u):Af u⊂x:=by
 cases x with
 | cV=>cases r;rfl
 | bl _=>cases r;rfl
 | int _=>let⟨t,rfl⟩:=r;rfl
 | str _=>let⟨t,rfl⟩:=r;rfl
 | lO _=>let⟨t,rfl⟩:=r;rfl
 | pL _=>let⟨t,rfl⟩:=r;rfl
 | ref _=>cases r;rfl
 | ty _=>cases r;rfl
def RelV.inj(r:RelV x u)(q:RelV y u):x=y:=vL (r.abs.symm.trans q.abs)
def Vals.inj:∀{xs ys:N2} {us:L9},Vals xs us->Vals ys us->xs=ys:=by
 intro xs ys us h
 induction h generalizing ys with
 | nil=>intro k;cases k;rfl
 | cons r t ih=>
  intro k;cases k with
  | cons r' t'=>rw[r.inj r',ih t']
section
variable{X:Cx}{pins:Ny}{σ:St}{H:Hp}{s:Shared}{a:Addr}{xs ys:N2}
def bV.of{K:cp}(h:H a⊂.lst xs):bV K H a xs:=.inl (.inl h)
def cw.of{K:cp}(h:H a⊂.tup xs):cw K H a xs:=.inl (.inl h)
def Inv.list(I:Inv X pins σ H s)(h:bV X.K H a xs):∃b:L9,Vals xs b/\PlainL s.heap a b.toArray/\⇑xs<=sizeLine:=by
 rcases h with h | ⟨o,b,n,f,c,d,g,i,r⟩
 .let⟨z,b,n,r,e⟩:=h.ok I.cv;rwa[b,r,#[_,n,e,rfl,rfl,rfl],z]
 .refine#[b.toList,r,#[o,n,I.fT a o f,c,d,#v[g]],?_];have e:=⇑r
  simp_all
def Inv.tuple(I:Inv X pins σ H s)(h:cw X.K H a xs):∃b:L9,Vals xs b/\IsTup s.heap a b.toArray/\⇑xs<=sizeLine:=by
 rcases h with h | ⟨o,b,n,d,c,f,g,r⟩
 .let⟨z,b,r,p⟩:=h.ok I.cv;rwa[b,r,p,z]
 .refine#[b.toList,r,#[o,I.fT a o d,c,n,#v[f]],?_];have e:=⇑r
  simp_all
def Inv.fv(I:Inv X pins σ H s)(h:bV X.K H a xs)(h':bV X.K H a ys):xs=ys:=by
 let⟨c,r,⟨o,n,e,q,q,d⟩,q⟩:=I.list h;let⟨b,i,⟨k,j,g,q,q,f⟩,q⟩:=I.list h';rw[e]at g;cases g;rw[d]at f;injection f with d1 _;have:c=b:=by simpa using congrArg Array.toList d1
 subst this;rwa[r.inj i]
def Inv.nv(I:Inv X pins σ H s)(h:cw X.K H a xs)(h':cw X.K H a ys):xs=ys:=by
 let⟨c,r,⟨o,e,q,n,d⟩,q⟩:=I.tuple h;let⟨b,i,⟨k,g,q,j,f⟩,q⟩:=I.tuple h';rw[e]at g;cases g;rw[d]at f;injection f with d1 _;have:c=b:=by simpa using congrArg Array.toList d1
 subst this;rwa[r.inj i]
end
noncomputable abbrev Cx.g7(X:Cx)(E:Nz):Cx:={X with xe:=E}
noncomputable abbrev Cx.i7(X:Cx):Cx:=X.g7 λq q=>False
def Cx.Ok.g7{X:Cx}(a:X.Ok)(E:Nz):(X.g7 E).Ok:=
 #[a.mod,a.kind,a.glob,a.blt,a.above,a.inj,a.has,a.rO,a.hd,a.frames,a.oH,a.uW,a.bs,a.nU,a.mD,a.mZ,a.gA,a.oS]
def Cx.Ok.dA{X:Cx}{E:Nz}(a:(X.g7 E).Ok):X.Ok:=
 #[a.mod,a.kind,a.glob,a.blt,a.above,a.inj,a.has,a.rO,a.hd,a.frames,a.oH,a.uW,a.bs,a.nU,a.mD,a.mZ,a.gA,a.oS]
section
variable{X:Cx}{pins:Ny}{σ:St}{H:Hp}{s:Shared}{E:Nz}
def Inv.g7(I:Inv X pins σ H s)(E:Nz):Inv (X.g7 E) pins σ H s:=#[I.ok.g7 E,I.os,I.bare,I.base,I.loc,I.cell,I.free,I.dM,I.pin,I.cv,I.len]
def Inv.dA(I:Inv (X.g7 E) pins σ H s):Inv X pins σ H s:=#[I.ok.dA,I.os,I.bare,I.base,I.loc,I.cell,I.free,I.dM,I.pin,I.cv,I.len]
def SP.dA(h:SP (X.g7 E) pins D f s'):SP X pins D f s':=by
 cases f with
 | next=>let⟨a,b,I,q⟩:=h;rwa[a,b,I.dA,q]
 | brk=>let⟨a,b,I,q⟩:=h;rwa[a,b,I.dA,q]
 | cont=>let⟨a,b,I,q⟩:=h;rwa[a,b,I.dA,q]
 | ret u=>let⟨v,a,b,I,r,q⟩:=h;rwa[v,a,b,I.dA,r,q]
def lu.i7{st:List Stmt}{t:TS}(h:lu X.i7 st t):lu X st t:=λa s c H D I b=>
 wpAny_mono (h a s c H D (I.g7 _) b) (λj j q=>q.dA) λj j z=>False.elim z
end
section
variable{X:Cx}{st:Stmt}{rest:List Stmt}{t u:TS}{e:Expr}{te:TE}{pos:Pos}
def ri:TS:=λD σ H=>D.nx σ H
def uI(t u:TS):TS:=λD σ H=>t {D with nx:=u D} σ H
def jw:lu X [] ri:=λq q a H q I h=>wpAny_execs_nil #[a,H,I,h]
def jb(e:PS X st t)(g:lu X rest u):lu X (st::rest) (uI t u):=by
 intro a s j H D I h;erw[wpAny_execs_cons (cC (e a s j H {D with nx:=u D} I h) λf i q=>?_)];cases f with
 | next=>
  let⟨b,c,d,q⟩:=q;rwa[g a i b c D d q]
 | ret v=>rwa[q]
 | brk=>rwa[q]
 | cont=>rwa[q]
def jg(b:PS X st t):lu X [st] t:=by
 intro a s c H D I h;erw[wpAny_execs_cons (cC (b a s c H D I h) λf d q=>?_)];cases f with
 | next=>rwa[wpAny_execs_nil q]
 | ret v=>rwa[q]
 | brk=>rwa[q]
 | cont=>rwa[q]
def Inv.quiet{a:St}{H:Hp}(I:Inv X pins a H s):interactive X.env=false:=by simp[interactive,I.ok.kind]
def rg(te:TE):TS:=λD σ H=>te σ H λq H1=>D.nx σ H1
def jT(f:PE X e te)(g:swapsWith e none pos.line X.env=pure false:=by rfl):PS X (.Expr e pos) (rg te):=by
 intro a s b H D I h;erw[wpAny_Expr_any (cC (f a s b H _ I h) λv k z_=>?_) I.quiet g];let⟨x,c,d,j,i⟩:=z_;rwa[b,c,d,i]
def uH(te:TE):TS:=λD σ H=>te σ H D.rt
def jy(f:PE X e te):PS X (.Return (some e) pos) (uH te):=by
 intro a s b H D I h;erw[wpAny_Return_some (cC (f a s b H _ I h) λv j z_=>?_)];let⟨x,c,d,i,g⟩:=z_;rwa[x,b,c,d,i,g]
def sh(c:TT)(t u:TS):TS:=λD σ H=>c σ H λb H1=>if b=true then t D σ H1 else u D σ H1
def jO{c:Expr}{a b:List Stmt}{l:TT}(o:PT X c l)(m:lu X a t)(n:lu X b u):PS X (.If c a b pos) (sh l t u):=by
 intro e s f H D I h;erw[wpAny_If (cC (o e s f H _ I h) λd k z_=>?_)];obtain⟨g,i,j⟩:=z_;cases d with
 | true=>rwa[m e k f g D i j]
 | false=>rwa[n e k f g D i j]
def si:TS:=λq q q=>False
def Yp:PS X st si:=λq q q q q q h=>h.elim
end
noncomputable abbrev TG:=V->St->Hp->(St->Hp->Prop)->Prop
noncomputable abbrev sC:=N2->St->Hp->(St->Hp->Prop)->Prop
def PG(X:Cx)(target:Expr)(t:TG):Prop:=
 ∀(pins:Ny) (s:Shared) (σ:St) (H:Hp) (v:V) (u:Value) (Q:St->Hp->Prop),Inv X pins σ H s->RelV v u->t v σ H Q->
  wpAny (model X.prog X.w) X.A (assign target X.env u) (λq s'=>∃S' H',Inv X pins S' H' s'/\Q S' H') X.xe s
def uS(X:Cx)(ts:Nt)(t:sC):Prop:=
 ∀(pins:Ny) (s:Shared) (σ:St) (H:Hp) (vs:N2) (us:L9) (Q:St->Hp->Prop),Inv X pins σ H s->Vals vs us->t vs σ H Q->
  wpAny (model X.prog X.w) X.A (assignInOrder ((assignEach ts X.env).map (·.2)) us) (λq s'=>∃S' H',Inv X pins S' H' s'/\Q S' H') X.xe s
noncomputable abbrev rK:=V->V->V->Hp->(Hp->Prop)->Prop
def rJ(X:Cx)(t:rK):Prop:=
 ∀(pins:Ny) (s:Shared) (σ:St) (H:Hp) (o i v:V) (ov iv u:Value) (Q:Hp->Prop),Inv X pins σ H s->RelV o ov->RelV i iv->RelV v u->t o i v H Q->
  wpAny (model X.prog X.w) X.A (setItem ov iv u) (λq s'=>∃H',Inv X pins σ H' s'/\Q H') X.xe s
noncomputable abbrev uV:=V->V->Hp->VK->Prop
def BV(X:Cx)(op:Operator)(t:uV):Prop:=
 ∀(pins:Ny) (s:Shared) (σ:St) (H:Hp) (x y:V) (v u:Value) (Q:VK),Inv X pins σ H s->RelV x v->RelV y u->t x y H Q->
  wpAny (model X.prog X.w) X.A (inplaceOp op v u) (EP X pins σ Q) X.xe s
section
variable{X:Cx}{pos:Pos}
def cn(i:Nat):TG:=λv σ H Q=>Q (σ.set i (some v)) H
def jq(c:X.N.Nodup)(hi:X.N[i]?⊂x)(e:Loc X.env.scope x)(d:X.fn x=true\/X.env.scope.names.lookup x⊂.local:=by and_intros):PG X (.Name x pos) (cn i):=by
 intro a s g H v u Q I r h;rwa[wpAny_assign_Name (Ki I c hi e r (λf b=>#[_,H,b,h]) d)]
def cN(i:Nat)(c:X.N.Nodup)(hi:X.N[i]?⊂x:=by rwa[rfl])(e:Loc X.env.scope x:=by rwa[.inl rfl])(d:X.fn x=true\/X.env.scope.names.lookup x⊂.local:=by and_intros):PG X (.Name x pos) (cn i):=jq (i:=i) c hi e d
def m5:sC:=λvs σ H Q=>vs=[]/\Q σ H
def dN(t:TG)(u:sC):sC:=λvs σ H Q=>∃v r,vs=v::r/\t v σ H λS' H'=>u r S' H' Q
def Ja:uS X [] m5:=by
 intro a s b H d c Q I r h;let⟨e,h⟩:=h;subst e;cases r;rwa[assignInOrder_nil #[b,H,I,h]]
def jz{e:Expr}{es:Nt}{t:TG}{u:sC}(g:PG X e t)(i:uS X es u)
  (j:(assignEach (e::es) X.env).map (·.2)=assign e X.env::(assignEach es X.env).map (·.2):=by rfl):uS X (e::es) (dN t u):=by
 intro a s m H p n Q I r h;let⟨v,o,f,h⟩:=h;subst f;cases r with
 | cons r rr=>
  rw[j];erw[assignInOrder_cons (cC (g a s m H _ _ _ I r h) λq l z_=>?_)];obtain⟨b,c,d,k⟩:=z_;rwa[i a l b c _ _ Q d rr k]
def m6(K:cp)(n:Nat)(t:sC):TG:=λv σ H Q=>∃a xs,v = .ref a/\cw K H a xs/\⇑xs=n/\t xs σ H Q
def Jx(p:X.calm=true)(h:uS X es t)
  (w:⇑(assignEach es X.env)=n:=by rfl) (d:(assignEach es X.env).findIdx? (·.1)=none:=by rfl):PG X (.Tuple es k pos) (m6 X.K n t):=by
 intro c s i H v u Q I r f;let⟨a,B,l,x,q,f⟩:=f;subst l;cases r;let⟨A,g,y,C⟩:=I.tuple x;erw[assign_Tuple_tuple (I.ok.hd p) y (by simp[w,<-q,⇑g]) d λm z=>?_]
 have j:Inv X c i H {s with heap:=m}:=I.kept (t':=s.toks) λb o e=>z b o (vE (vI e)) e
 rwa[h c _ i H B _ Q j #v[g] f]
def tx(to ti:TE)(t:rK):TG:=λv σ H Q=>to σ H λo H1=>ti σ H1 λi H2=>t o i v H2 λH3=>Q σ H3
def Yo{o i:Expr}{e d:TE}{t:rK}(p:PE X o e)(hi:PE X i d)(q:rJ X t)
  (n:∀v,assign (.Subscript o i pos) X.env v=(do
   let ov <-holding [v] (eval o X.env)
   let b <-holding [v,ov] (eval i X.env)
   standAt pos
   holding [v,ov,b] (setItem ov b v)
   release [v,ov,b] []):=by intro Z;rfl):PG X (.Subscript o i pos) (tx e d t):=by
 intro a s c H v u Q I r h;rw[n];erw[uh (wpAny_holding (cC (p a s c H _ I h) λov D z_=>?_))];obtain⟨x,f,k,B,w⟩:=z_;erw[uh (wpAny_holding (cC (hi a D c f _ k w) λb E z_=>?_))];obtain⟨y,g,l,C,z⟩:=z_;erw[uh (wpAny_standAt (uh (wpAny_holding (cC (q a E c g x y v ov b u _ l B C r z) λZ F z_=>?_))))];obtain⟨j,m,A⟩:=z_;rwa[wpAny_release #[c,j,m,A]]
def om(te:TE)(g:TG):TS:=λD σ H=>te σ H λx H1=>g x σ H1 D.nx
def Zi{b e:Expr}{c:TE}{g:TG}(k:PE X e c)(l:PG X b g)(m:swapsWithSole [b] e pos.line X.env=pure false:=by rfl)(hw:swappedStores [b] e X.env=pure none:=by rfl)
  (j:(assignEach [b] X.env).map (·.2)=[assign b X.env]:=by rfl):PS X (.Assign [b] e pos) (om c g):=by
 intro a s d H D I h;erw[wpAny_Assign_stores (cC (k a s d H _ I h) λv p z_=>?_) m hw];obtain⟨x,f,i,o,n⟩:=z_;rw[j];rwa[cC (l a p d f x v _ i o n) λZ r q=>q]
def jo{i:Nat}{x:Str}{e:Expr}{c:TE}{a:Pos}(j:X.N.Nodup)(hi:X.N[i]?⊂x)(n:Loc X.env.scope x)(k:PE X e c)(m:swapsWith e (some (.Name x a)) pos.line X.env=pure false:=by rfl)(l:X.fn x=true\/X.env.scope.names.lookup x⊂.local:=by and_intros) :
  PS X (.Assign [.Name x a] e pos) (om c (cn i)):=by
 intro b s q H D I h;erw[wpAny_Assign_Name (cC (k b s q H _ I h) λv r z_=>?_) m];obtain⟨y,d,f,p,o⟩:=z_;rwa[Ki f j hi n p (λt g=>#[_,d,g,o]) l]
def cz(i:Nat){x:Str}{e:Expr}{c:TE}{a:Pos}(j:X.N.Nodup)(k:PE X e c)(hi:X.N[i]?⊂x:=by rwa[rfl])(n:Loc X.env.scope x:=by rwa[.inl rfl])(m:swapsWith e (some (.Name x a)) pos.line X.env=pure false:=by rfl)(l:X.fn x=true\/X.env.scope.names.lookup x⊂.local:=by and_intros) : PS X (.Assign [.Name x a] e pos) (om c (cn i)):=jo (i:=i) j hi n k m l
def uw(i:Nat)(te:TE)(ti:uV):TS:=λD σ H=>∃x,σ[i]?⊂(some x)/\te σ H λy H1=>ti x y H1 λz H2=>D.nx (σ.set i (some z)) H2
def NP{i:Nat}{x:Str}{e:Expr}{q:TE}{op:Operator}{t:uV}{f:Pos}(K:X.N.Nodup)(hi:X.N[i]?⊂x)(n:Loc X.env.scope x)(M:PE X e q)(R:BV X op t)(N:X.fn x=true\/X.env.scope.names.lookup x⊂.local:=by and_intros) :
  PS X (.AugAssign (.Name x f) op e pos) (uw i q t):=by
 intro a s A H D I h;let⟨v,J,h⟩:=h;let⟨m,Q,O⟩:=I.loc;have o:tj X.env.scope x:=by rcases n with k | k;rwa[.inl k];rwa[.inr (.inl k)]
 let⟨u,r,l⟩:=O i x v hi J o;erw[wpAny_AugAssign_Name ?_];have p:wpAny (model X.prog X.w) X.A (eval e X.env) (λw g=>wpAny (model X.prog X.w) X.A (inplaceOp op u w) (λr j=>wpAny (model X.prog X.w) X.A (storeName X.env x r) (λ_=>SP X a D .next) X.xe j) X.xe g) X.xe s:=by
  erw[cC (M a s A H _ I h) λw Y z_=>?_];obtain⟨y,B,E,U,S⟩:=z_
  erw[cC (R a Y A B v y u w _ E r U S) λz Z z_=>?_];obtain⟨zv,C,F,W,T⟩:=z_
  rwa[Ki F K hi n W (λs3 G=>#[_,C,G,T]) N]
 rcases l with⟨b,P⟩ | ⟨b,c,L,d⟩
 .exact wpAny_loadName_local I.ok.kind b Q P p
 .rcases b with b | b
  .exact wpAny_loadName_cell I.ok.kind b L d p
  .rcases n with k | k
   .have:X.env.scope.names.lookup x⊂.free:=b;rw[k]at this;cases this
   .have:X.env.scope.names.lookup x⊂.free:=b;rw[k]at this;cases this
noncomputable def B5(f:Int->Int->Int):uV:=λx y H Q=>∃i j,x = .int i/\y = .int j/\Q (.int (f i j)) H
def MD:BV X .Add (B5 λi j=>i+j):=by
 intro a s g H x y v u Q I d e h;let⟨i,j,b,c,q⟩:=h;subst b;subst c;let⟨t,rfl⟩:=d;let⟨f,rfl⟩:=e;rwa[iadd_int #[.int _,H,I.tok _,#[_,rfl],q]]
def sk(c:TT)(tb:TS):TS:=λD σ H=>∃W:Nat->St->Hp->Prop,(∃m,W m σ H)/\∀m σ H,W m σ H->
 c σ H λb H1=>if b=true then∃N:St->Hp->Prop,(∀S' H',N S' H'->∃m',m'<m/\W m' S' H')/\tb {D with nx:=N,ct:=N,bk:=D.nx} σ H1 else D.nx σ H1
def CK{c:Expr}{g:List Stmt}{C:TT}{B:TS}(A:PassesOwn (model X.prog X.w) X.A X.env X.xe)(G:PT X c C)(F:lu X g B):PS X (.While c g [] pos) (sk C B):=by
 intro a s Q H D I h;let⟨W,⟨J,O⟩,j⟩:=h;erw[wpAny_While (codeAny_whileLoop (λn K=>∃k u,Inv X a k u K/\W n k u) ?_ J #[Q,H,I,O])];rintro n L ⟨e,w,E,P⟩;erw[wpAny_passesOwn A (cC (G a L e w _ E (j n e w P)) λb M z_=>?_)];obtain⟨x,y,l⟩:=z_;cases b with
 | true=>
  let⟨N,z,l⟩:=l;rw[vd rfl];erw[wpAny_passesOwn A (cC (F a M e x _ y l) λf R m=>?_)];cases f with
  | next=>
   let⟨d,i,o,r⟩:=m;let⟨q,p,t⟩:=z d i r;rwa[q,p,d,i,o,t]
  | cont=>
   let⟨d,i,o,r⟩:=m;let⟨q,p,t⟩:=z d i r;rwa[q,p,d,i,o,t]
  | brk=>rwa[m]
  | ret v=>rwa[m]
 | false=>
  rw[vc vF];rwa[wpAny_execs_nil #[e,x,y,l]]
end
structure It where
 go:Nat->Hp->Prop
 lI:Nat->Hp->V->Hp->Prop
 stop:Nat->Hp->Prop
def fM(X:Cx)(pins:Ny)(H:Hp)(b:Addr):Prop:=
 H b=none/\b≠X.env.locals/\b∉X.fs/\(b∈X.ex\/X.s₀.heap.objs.size<=b)/\(∀x c,X.env.cells.lookup x⊂c->c≠b)/\∀p∈X.pn++pins,p.1≠b
def Inv.fY{g:St}{H H':Hp}(I:Inv X pins g H s)(a:s⁻¹<=b)(d:H' b=none):fM X pins H' b:=by
 erw[d,vO (Nat.lt_of_lt_of_le I.lt a),I.BH a,.inr (vW I.sz a),λx c e z=>?_,λp f z=>?_]
 .let⟨v,q⟩:=I.cell x c e;rwa[uf (Nat.lt_of_lt_of_le q.lt (by rw[z];rwa[a])) (Nat.lt_irrefl _)]
 .exact uf (Nat.lt_of_lt_of_le (vI (I.pin p f).1) (by rw[z];rwa[a])) (Nat.lt_irrefl _)
structure Turn(P:Program)(w:World)(K:cp)(tg:Expr)(J:It)(fp:L7)(it:Addr)(tn:Nat->Heap->Prop):Prop where
 mem:it∈fp
 obj:∀i h,tn i h->∀b∈fp,∃o,h.get? b⊂o/\∀v,o.data≠.cell v
 keep:∀i h h',tn i h->(∀b∈fp,∀o,h.get? b⊂o->h'.get? b⊂o)->tn i h'
 item:∀(X:Cx),X.prog=P->X.w=w->X.K=K->X.calm=true->∀(i:Nat) (pins:Ny) (s:Shared) (σ:St) (H:Hp) (E:Nz),Inv X pins σ H s->(∀b∈fp,fM X pins H b)->tn i s.heap->J.go i H->
  wpAny (model P w) X.A (pyNext (.ref it)) (λr s1=>∃u,r⊂u/\
   wpAny (model P w) X.A (letOwnedTupleGo tg (.ref it) u) (λ_ s2=>∃x H',Inv X pins σ H' s2/\RelV x u/\J.lI i H x H'/\tn (i+1) s2.heap/\∀b∈fp,H' b=none) E s1) E s
 done:∀(X:Cx),X.prog=P->X.w=w->X.K=K->X.calm=true->∀(i:Nat) (pins:Ny) (s:Shared) (σ:St) (H:Hp) (E:Nz),Inv X pins σ H s->(∀b∈fp,fM X pins H b)->tn i s.heap->J.stop i H->
  wpAny (model P w) X.A (pyNext (.ref it)) (λr s1=>r=none/\Inv X pins σ H s1) E s
 self:∀(A:Around) (i:Nat) (s:Shared) (Q:Nz) (E:Nz),tn i s.heap->Q (.ref it) s->wpAny (model P w) A (pyIter (.ref it)) Q E s
noncomputable abbrev TI:=St->Hp->(It->Hp->Prop)->Prop
def Ab(X:Cx)(pins:Ny)(σ:St)(tg:Expr)(R:It->Hp->Prop)(itv:Value)(s2:Shared):Prop:=
 ∃(it:Addr) (fp:L7) (tn:Nat->Heap->Prop) (J:It) (H':Hp),itv = .ref it/\Inv X pins σ H' s2/\Turn X.prog X.w X.K tg J fp it tn/\tn 0 s2.heap/\(∀b∈fp,fM X pins H' b)/\R J H'
def PI(X:Cx)(tg iter:Expr)(wi:TI):Prop:=
 ∀(pins:Ny) (s:Shared) (σ:St) (H:Hp) (R:It->Hp->Prop),Inv X pins σ H s->wi σ H R->
  wpAny (model X.prog X.w) X.A (eval iter X.env) (λv s1=>wpAny (model X.prog X.w) X.A (pyIter v) (Ab X pins σ tg R) X.xe s1) X.xe s
def tH{E:Nz}{Q:Unit->Shared->Prop}(e:s.heap.get? it⊂o)(b:o.cls = .type n)(c:o.data = .fields vs)
    (d:["enumerate","zip","dict_itemiterator","dict_reverseitemiterator","odict_iterator","itertools.zip_longest","itertools.pairwise"].contains n=false) (a:Q () s):wpAny M A (letOwnedTupleGo tg (.ref it) u) Q E s:=by
  unfold letOwnedTupleGo;cases tg<;>first
    | rwa[ug a]
    | (cases u<;>first
        | rwa[ug a]
        | (refine uh (wpAny_load e ?_)
           rw[b,c];show wpAny M A (if(["enumerate","zip","dict_itemiterator","dict_reverseitemiterator","odict_iterator","itertools.zip_longest","itertools.pairwise"].contains n&&vs[0]?==some (rawInt _))=true then _ else _) Q E s;rw[vc (by intro h;rw[d,Bool.false_and]at h;cases h)];rwa[ug a]))
def nJ(K:cp)(a:Addr):It:=
 #[λi H=>∃xs x,bV K H a xs/\xs[i]?⊂x,λi H x H'=>H'=H/\∀xs,bV K H a xs->xs[i]?⊂x,λi H=>∃xs,bV K H a xs/\⇑xs<=i]
def nK(K:cp)(a:Addr):It:=
 #[λi H=>∃xs x,cw K H a xs/\xs[i]?⊂x,λi H x H'=>H'=H/\∀xs,cw K H a xs->xs[i]?⊂x,λi H=>∃xs,cw K H a xs/\⇑xs<=i]
def nA(lo:Int)(n:Nat):It:=#[λi q=>i<n,λi H x H'=>H'=H/\x = .int (lo+i),λi q=>n<=i]
def Xl{P:Program}{w:World}{K:cp}{tg:Expr}(a it:Addr):Turn P w K tg (nJ K a) [it] it (λi h=>h.IsListIter it a i) where
 mem:=by simp
 obj:=λi h f b j=>by
  have e:b=it:=by simpa using j
  subst e;let⟨o,e,c,d⟩:=f;rwa[o,e,λv z=>by rw[d]at z;cases z]
 keep:=λi h m f k=>f.at λo e=>k it (by simp) o e
 item:=by
  intro X D G C N i g s O H E I n f F;subst D G C;let⟨xs,x,q,J⟩:=F;let⟨L,M,p,W⟩:=I.list q;let⟨u,T,Y⟩:=M.get J;let⟨r,t,S,y,A,B⟩:=n it (by simp);erw[wpAny_pyNext_list_item f p.isList (x:=u) #v[T] λm l Z=>?_]
  have Q:Inv X g O H {s with heap:=m}:=I.turned (t':=s.toks) (λb o j e=>(Z.2 b j).trans e) r t y A B;let⟨o,e,c,d⟩:=id l;rwa[u,rfl,tH (s:={s with heap:=m}) e c d nofun #[x,H,Q,Y,#[rfl,λys U=>by rw[I.fv U q];rwa[J]],l,λb j=>(n b j).1]]
 done:=by
  intro X D G C N i g s O H E I n f F;subst D G C;let⟨xs,q,J⟩:=F;let⟨L,M,p,W⟩:=I.list q;let⟨r,t,S,y,A,B⟩:=n it (by simp);have hl:=⇑M;rwa[wpAny_pyNext_list_end (I.ok.hd N) f p.isList (by simp;lia) λm R=>#[rfl,I.turned (t':=s.toks) (λb o j e=>R b o j e) r t y A B]]
 self:=λ_ _ _ _ _ f h=>wpAny_pyIter_listiter f h
def WX{P:Program}{w:World}{K:cp}{tg:Expr}(a it:Addr):Turn P w K tg (nK K a) [it] it (λi h=>h.IsTupleIter it a i) where
 mem:=by simp
 obj:=λi h f b j=>by
  have e:b=it:=by simpa using j
  subst e;let⟨o,e,c,d⟩:=f;rwa[o,e,λv z=>by rw[d]at z;cases z]
 keep:=λi h n f k=>f.at λo e=>k it (by simp) o e
 item:=by
  intro X F J D N i g s O H E I q f G;subst F J D;let⟨xs,x,r,L⟩:=G;let⟨l,M,p,W⟩:=I.tuple r;let⟨u,T,Y⟩:=M.get L;let⟨t,y,S,A,B,C⟩:=q it (by simp);erw[wpAny_pyNext_tuple_item f (show s.heap.IsTuple a l.toArray from p) (x:=u) #v[T] λn m Z=>?_]
  have Q:Inv X g O H {s with heap:=n}:=I.turned (t':=s.toks) (λb o j e=>(Z.2 b j).trans e) t y A B C;let⟨o,e,c,d⟩:=id m;rwa[u,rfl,tH (s:={s with heap:=n}) e c d nofun #[x,H,Q,Y,#[rfl,λys U=>by rw[I.nv U r];rwa[L]],m,λb j=>(q b j).1]]
 done:=by
  intro X F J D N i g s O H E I q f G;subst F J D;let⟨xs,r,L⟩:=G;let⟨l,M,p,W⟩:=I.tuple r;let⟨t,y,S,A,B,C⟩:=q it (by simp);have hl:=⇑M;rwa[wpAny_pyNext_tuple_end (I.ok.hd N) f (show s.heap.IsTuple a l.toArray from p) (by simp;lia) λn R=>#[rfl,I.turned (t':=s.toks) (λb o j e=>R b o j e) t y A B C]]
 self:=λ_ _ _ _ _ f h=>wpAny_pyIter_tupleiter f h
def FY{P:Program}{w:World}{K:cp}{M:Expr}(it:Addr)(lo:Int)(n:Nat):Turn P w K M (nA lo n) [it] it (λi h=>IsRangeIter h it (lo+(i:Nat)*1) ((n:Int)-(i:Nat)) 1) where
 mem:=by simp
 obj:=λi h c b d=>by
  simp_all
 keep:=λi h g c k=>k it (by simp) _ c
 item:=by
  intro X x A u y i a s C H E I j c z;subst x A u;let⟨l,m,G,p,q,r⟩:=j it (by simp);have W:=Walks.range (prog:=X.prog) (w:=X.w) (I.ok.hd y) it lo 1 n;erw[W.item i s _ _ z c λv g B J f L=>?_]
  let⟨t,rfl⟩:=J;have D:Inv X a C H {s with heap:=g,toks:=B}:=I.turned (λb o d e=>L b o #v[d] e) l m p q r;erw[_,rfl,tH (s:={s with heap:=g,toks:=B}) (n:="range_iterator") f rfl rfl nofun #[.int (lo+i),H,D,#[t,?_],#[rfl,rfl],f,λb d=>(j b d).1]];rw[Int.mul_one]
 done:=by
  intro X x A u y i a s C H E I j c z;subst x A u;let⟨l,m,G,p,q,r⟩:=j it (by simp);rwa[wpAny_pyNext_range_end (I.ok.hd y) c (by have:n<=i:=z;lia) λg F=>#[rfl,I.turned (t':=s.toks) (λb o d e=>F b o d e) l m p q r]]
 self:=λZ Z Z Z Z c h=>wpAny_pyIter_rangeiter c h
section
variable{X:Cx}{tg:Expr}
def pP(K:cp)(tl:TE):TI:=λσ H R=>tl σ H λx H1=>∃a,x = .ref a/\(∃xs,bV K H1 a xs)/\R (nJ K a) H1
def tE(K:cp)(tl:TE):TI:=λσ H R=>tl σ H λx H1=>∃a,x = .ref a/\(∃xs,cw K H1 a xs)/\R (nK K a) H1
def jX{l:Expr}{g:TE}(k:PE X l g):PI X tg l (pP X.K g):=by
 intro c s u H R I h;erw[cC (k c s u H _ I h) λv f z_=>?_];obtain⟨x,i,d,t,r⟩:=z_
 let⟨a,e,⟨z,m⟩,q⟩:=r;subst e;cases t;let⟨n,y,p,w⟩:=d.list m;erw[wpAny_pyIter_list p.isList ?_];erw[f⁻¹,[f⁻¹],_,_,i,rfl,d.kept (t':=f.toks) λb o e=>vJ _ e,Xl a _,#[_,Heap.get?_push_size _ rfl,rfl,rfl],λb j=>?_,q];have e:b=f⁻¹:=by simpa using j
 subst e;rwa[d.fY (vb _) (d.cv.fresh (vb _))]
def KZ{l:Expr}{i:TE}(m:PE X l i):PI X tg l (tE X.K i):=by
 intro c s u H R I h;erw[cC (m c s u H _ I h) λv d z_=>?_];obtain⟨x,j,f,t,r⟩:=z_
 let⟨a,e,⟨z,n⟩,q⟩:=r;subst e;cases t;let⟨g,y,p,w⟩:=f.tuple n;erw[wpAny_pyIter_tuple (show d.heap.IsTuple a g.toArray from p) ?_];erw[d⁻¹,[d⁻¹],_,_,j,rfl,f.kept (t':=d.toks) λb o e=>vJ _ e,WX a _,#[_,Heap.get?_push_size _ rfl,rfl,rfl],λb k=>?_,q];have e:b=d⁻¹:=by simpa using k
 subst e;rwa[f.fY (vb _) (f.cv.fresh (vb _))]
def CN{a:Ny}{f:St}{H:Hp}{s:Shared}{R:It->Hp->Prop}{E:Nz}{lo hi:Int}{t u v:Tok}{d:Nat}(I:Inv X a f H s)(i : -(2^62)<=lo)(j:lo<2^62)(k : -(2^62)<=hi)(l:hi<2^62)
  (q:R (nA lo (hi-lo).toNat) H):wpAny (model X.prog X.w) X.A (pyIter (.ref s⁻¹)) (Ab X a f tg R) E {s with heap:=s.heap.push {cls:=.type "range",data:=.fields [.int lo t,.int hi u,.int 1 v].toArray},toks:=d}:=by
 erw[wpAny_pyIter_range (IsRange.new ..) (small_one i j k l) ?_];have c:Inv X a f H {s with heap:=s.heap.push {cls:=.type "range",data:=.fields [.int lo t,.int hi u,.int 1 v].toArray},toks:=d}:=I.kept λb o e=>vJ _ e
 refine#[(s.heap.push {cls:=.type "range",data:=.fields [.int lo t,.int hi u,.int 1 v].toArray}).objs.size,[(s.heap.push {cls:=.type "range",data:=.fields [.int lo t,.int hi u,.int 1 v].toArray}).objs.size],_,_,H,rfl,
  c.kept (t':=d) λb o e=>vJ _ e,FY _ lo (hi-lo).toNat,?_,λb m=>?_,q]
 .have g:lo+((0:Nat):Int)*1=lo:=by simp
  have h:(((hi-lo).toNat:Nat):Int)-((0:Nat):Int)=Builtin.Range.rangeSize lo hi 1:=by rw[rangeSize_one];split<;>lia
  show IsRangeIter _ _ (lo+((0:Nat):Int)*1) ((((hi-lo).toNat:Nat):Int)-((0:Nat):Int)) 1;rw[g,h];rwa[Heap.get?_push_size _ rfl]
 .have e:b=(s.heap.push {cls:=.type "range",data:=.fields [.int lo t,.int hi u,.int 1 v].toArray}).objs.size:=by simpa using m
  subst e;rwa[c.fY (vb _) (c.cv.fresh (vb _))]
def pQ(ta:TA):TI:=λσ H R=>ta σ H λvs H1=>∃j:Int,vs=[.int j]/\-(2^62)<=j/\j<2^62/\R (nA 0 j.toNat) H1
def pR(ta:TA):TI:=λσ H R=>ta σ H λvs H1=>∃i j:Int,vs=[.int i,.int j]/\(-(2^62)<=i/\i<2^62/\-(2^62)<=j/\j<2^62)/\R (nA i (j-i).toNat) H1
def J3{a:Expr}{f:TA}{p c:Pos}(k:Gl X "range")(l:X.mg "range"= none)(i:PA X [a] f)(m:starEach [a] X.env=[(false,eval a X.env)]:=by rfl):PI X tg (.Call (.Name "range" p) [a] [] c) (pQ f):=by
 intro b s u H R I h;erw[Call_ (Zd I k l boot_range (PyProof.Rows.callWith_type1 (cC (i c b s u H _ I h) λx w z_=>?_) m rfl))];obtain⟨y,v,g,o,d⟩:=z_;let⟨j,e,d,n,q⟩:=d;subst e;cases o with
 | cons r rr=>
  cases rr;let⟨t,rfl⟩:=r;rwa[call_range_1 (CN g ⋯ ⋯ d n #v[q])]
def GR{a b:Expr}{k:TA}{p f:Pos}(n:Gl X "range")(o:X.mg "range"= none)(m:PA X [a,b] k)(u:starEach [a,b] X.env=[(false,eval a X.env),(false,eval b X.env)]:=by rfl)(c:starEach [b] X.env=[(false,eval b X.env)]:=by rfl) :
  PI X tg (.Call (.Name "range" p) [a,b] [] f) (pR k):=by
 intro d s z H R I h;erw[Call_ (Zd I n o boot_range (PyProof.Rows.callWith_type1 (cC (m f d s z H _ I h) λD B ⟨E,A,l,y,g⟩=>?_) (by rw[u,c]) (by rw[c];rfl)))];let⟨i,j,e,⟨g,v,w,x⟩,q⟩:=g;subst e;cases y with
 | cons r rr=>
  cases rr with
  | cons r' rr=>
   cases rr;let⟨t,rfl⟩:=r;let⟨C,rfl⟩:=r';rwa[call_range_2 (CN l g v w x q)]
def uC(wi:TI)(g:TG)(tb:TS):TS:=λD σ H=>wi σ H λJ H1=>∃W:Nat->Nat->St->Hp->Prop,(∃m,W 0 m σ H1)/\∀i m σ H,W i m σ H->
 (J.stop i H/\D.nx σ H)\/(J.go i H/\∃N:St->Hp->Prop,(∀S' H',N S' H'->∃m',m'<m/\W (i+1) m' S' H')/\∀x H',J.lI i H x H'->g x σ H' λσ2 H2=>tb {D with nx:=N,ct:=N,bk:=D.nx} σ2 H2)
noncomputable def iy(fp:L7)(h:Heap):Ny:=fp.filterMap λb=>(h.get? b).map λo=>(b,o)
def yp(a:b∈fp)(e:h.get? b⊂o):(b,o)∈iy fp h:=mem_filterMap.mpr #[b,a,by rw[e];rfl]
def GC(d:p∈iy fp h):p.1∈fp/\h.get? p.1⊂p.2:=by
 let⟨b,c,e⟩:=mem_filterMap.mp d;cases q:h.get? b with
 | none=>rw[q]at e;cases e
 | some o=>
  rw[q]at e;have a:(b,o)=p:=vL e;subst a;rwa[c,q]
def Inv.pinned{f:St}{H:Hp}(I:Inv X pins f H s)(j:∀b∈fp,fM X pins H b)(k:∀b∈fp,∃o,s.heap.get? b⊂o/\∀v,o.data≠.cell v):Inv X (pins++iy fp s.heap) f H s:=
 I.pins_of λp l=>(vh.mp l).elim (λz=>I.pin p (mem_append_right _ z)) λz=>by
  let⟨c,e⟩:=GC z;let⟨g,h,i,q⟩:=j p.1 c;let⟨o,a,d⟩:=k p.1 c;rw[e]at a;cases a;rwa[e,g,h,i,d]
def Inv.iP{a:St}{H:Hp}(I:Inv X (pins++pl) a H s):Inv X pins a H s:=I.pins_of λp b=>I.pin p (mem_append_right _ (mem_append_left _ b))
def j4{q:Expr}{A:List Stmt}{wi:TI}{g:TG}{tb:TS}{Y:Pos}(G:PassesOwn (model X.prog X.w) X.A X.env X.xe)(hc:X.calm=true)(hi:PI X tg q wi)(hg:PG X tg g)(p:lu X A tb)
  (hs:∀x,foldedSetIterable q X.env x=pure x:=by intro _;rfl):PS X (.For tg q A [] Y) (uC wi g tb):=by
 intro a s σ H D I h;erw[wpAny_For (cC (hi a s σ H _ I h) λv s1 h1=>cC h1 λa2 s2 h2=>?_) hs];let⟨it,E,tn,J,H2,e,I2,T,a0,f2,W,⟨m0,w0⟩,P⟩:=h2;subst e;have t:∀{z:Hp},(∀b∈E,z b=none)->∀b∈E,fM X a z b:=λhn b p=>#[hn b p,(f2 b p).2]
 erw[codeAny_forLoop_any (λn s'=>∃i w z,Inv X a w z s'/\tn i s'.heap/\(∀b∈E,z b=none)/\W i n w z) ?_ m0 #[0,σ,H2,I2,a0,λb p=>(f2 b p).1,w0]];rintro n s3 ⟨i,y,Q,I3,L,F,w3⟩;rcases P i n y Q w3 with⟨O,qn⟩ | ⟨go,N,hN,M⟩
 .refine wpAny_passesOwn G (cC (T.done X rfl rfl rfl hc i a s3 y Q X.xe I3 (t F) L O) λr s4 ⟨U,I4⟩=>?_);subst U;rwa[wpAny_execs_nil #[y,Q,I4,qn]]
 .refine wpAny_passesOwn G (cC (T.item X rfl rfl rfl hc i a s3 y Q X.xe I3 (t F) L go) λr s4 ⟨u,U,h4⟩=>?_);subst U;erw[wpAny_passesOwn G (cC h4 λ_ s5 z_=>?_)];obtain⟨x,H5,I5,r5,y5,C,S⟩:=z_;have R:=I5.pinned (t S) (T.obj _ _ C);erw[wpAny_passesOwn G (cC (hg _ s5 y H5 x u _ R r5 (M x H5 y5)) λ_ s6 z_=>?_)];obtain⟨a1,H6,I6,q6⟩:=z_;erw[wpAny_passesOwn G (cC (p _ s6 a1 H6 _ I6 q6) λf Z B=>?_)];have l:∀{c:St} {j:Hp},Inv X (a++iy E s5.heap) c j Z->N c j->∃m,m<n/\∃i w z,Inv X a w z Z/\tn i Z.heap/\(∀b∈E,z b=none)/\W i m w z:=λ{c j} k K=>by
   let⟨m',hm,w7⟩:=hN c j K;erw[m',hm,i+1,c,j,k.iP,T.keep _ _ _ C λb p o e=>(k.pin (b,o) (mem_append_right _ (mem_append_right _ (yp p e)))).1,λb p=>?_,w7];let⟨o,e,d⟩:=T.obj _ _ C b p;rwa[(k.pin (b,o) (mem_append_right _ (mem_append_right _ (yp p e)))).2.1]
  cases f with
  | next=>let⟨c,j,k,K⟩:=B;rwa[l k K]
  | cont=>let⟨c,j,k,K⟩:=B;rwa[l k K]
  | brk=>let⟨c,j,k,B⟩:=B;rwa[c,j,k.iP,B]
  | ret v=>let⟨x7,c,j,k,r7,B⟩:=B;rwa[x7,c,j,k.iP,r7,B]
end
def JD{K:cp}{a:Addr}{xs:N2}{g:TG}{j:TS}{D:Ends}{b:St}{H:Hp}(c:Nat->St->Hp->Prop)(k:c 0 b H)(o:∀i b H,i<=⇑xs->c i b H->bV K H a xs)
  (r:∀i x b H,xs[i]?⊂x->c i b H->g x b H λd H2=>j {D with nx:=c (i+1),ct:=c (i+1),bk:=D.nx} d H2) (l:∀b H,c ⇑xs b H->D.nx b H) :
  ∃W:Nat->Nat->St->Hp->Prop,(∃m,W 0 m b H)/\∀i m b H,W i m b H->
   ((nJ K a).stop i H/\D.nx b H)\/((nJ K a).go i H/\∃N:St->Hp->Prop,(∀S' H',N S' H'->∃h,h<m/\W (i+1) h S' H')/\∀x H',(nJ K a).lI i H x H'->g x b H' λd H2=>j {D with nx:=N,ct:=N,bk:=D.nx} d H2):=by
 erw[λi m b H=>m=⇑xs-i/\i<=⇑xs/\c i b H,#[⇑xs,by simp,va _,k],?_];rintro i m b H ⟨rfl,n,p⟩;have q:=o i b H n p;by_cases f:i<⇑xs
 .refine .inr #[#[xs,xs[i],q,by simp[f]],c (i+1),λS' H' s=>#[⇑xs-(i+1),⋯,rfl,f,s],λx H' y=>?_];let⟨e,y⟩:=y;subst e;rwa[r i x b _ (y xs q) p]
 .have e:i=⇑xs:=⋯
  subst e;rwa[.inl #[#[xs,q,vb _],l b H p]]
def Dg{K:cp}{a:Addr}{xs:N2}{g:TG}{j:TS}{D:Ends}{b:St}{H:Hp}(c:Nat->St->Hp->Prop)(k:c 0 b H)(o:∀i b H,i<=⇑xs->c i b H->cw K H a xs)
  (r:∀i x b H,xs[i]?⊂x->c i b H->g x b H λd H2=>j {D with nx:=c (i+1),ct:=c (i+1),bk:=D.nx} d H2) (l:∀b H,c ⇑xs b H->D.nx b H) :
  ∃W:Nat->Nat->St->Hp->Prop,(∃m,W 0 m b H)/\∀i m b H,W i m b H->
   ((nK K a).stop i H/\D.nx b H)\/((nK K a).go i H/\∃N:St->Hp->Prop,(∀S' H',N S' H'->∃h,h<m/\W (i+1) h S' H')/\∀x H',(nK K a).lI i H x H'->g x b H' λd H2=>j {D with nx:=N,ct:=N,bk:=D.nx} d H2):=by
 erw[λi m b H=>m=⇑xs-i/\i<=⇑xs/\c i b H,#[⇑xs,by simp,va _,k],?_];rintro i m b H ⟨rfl,n,p⟩;have q:=o i b H n p;by_cases f:i<⇑xs
 .refine .inr #[#[xs,xs[i],q,by simp[f]],c (i+1),λS' H' s=>#[⇑xs-(i+1),⋯,rfl,f,s],λx H' y=>?_];let⟨e,y⟩:=y;subst e;rwa[r i x b _ (y xs q) p]
 .have e:i=⇑xs:=⋯
  subst e;rwa[.inl #[#[xs,q,vb _],l b H p]]
def qY{lo:Int}{n:Nat}{g:TG}{h:TS}{D:Ends}{a:St}{H:Hp}(b:Nat->St->Hp->Prop)(j:b 0 a H)
  (l:∀i a H,i<n->b i a H->g (.int (lo+i)) a H λd H2=>h {D with nx:=b (i+1),ct:=b (i+1),bk:=D.nx} d H2) (k:∀a H,b n a H->D.nx a H) :
  ∃W:Nat->Nat->St->Hp->Prop,(∃m,W 0 m a H)/\∀i m a H,W i m a H->
   ((nA lo n).stop i H/\D.nx a H)\/((nA lo n).go i H/\∃N:St->Hp->Prop,(∀S' H',N S' H'->∃f,f<m/\W (i+1) f S' H')/\∀x H',(nA lo n).lI i H x H'->g x a H' λd H2=>h {D with nx:=N,ct:=N,bk:=D.nx} d H2):=by
 erw[λi m a H=>m=n-i/\i<=n/\b i a H,#[n,by simp,va _,j],?_];rintro i m a H ⟨rfl,q,p⟩;by_cases c:i<n
 .refine .inr #[c,b (i+1),λS' H' o=>#[n-(i+1),⋯,rfl,c,o],λx H' y=>?_];let⟨e,y⟩:=y;subst e y;rwa[l i a _ c p]
 .have e:i=n:=⋯
  subst e;rwa[.inl #[vb _,k a H p]]
noncomputable abbrev R2:=V->V->Hp->VK->Prop
def fH(X:Cx)(f:Value->Value->Sem Value)(r:R2):Prop:=
 ∀(pins:Ny) (s:Shared) (σ:St) (H:Hp) (x y:V) (v u:Value) (Q:VK),Inv X pins σ H s->RelV x v->RelV y u->r x y H Q->
  wpAny (model X.prog X.w) X.A (f v u) (EP X pins σ Q) X.xe s
def Ae(X:Cx)(f:Value->Sem Value)(r:V->Hp->VK->Prop):Prop:=
 ∀(pins:Ny) (s:Shared) (σ:St) (H:Hp) (x:V) (v:Value) (Q:VK),Inv X pins σ H s->RelV x v->r x H Q->
  wpAny (model X.prog X.w) X.A (f v) (EP X pins σ Q) X.xe s
def c8(X:Cx)(f:Value)(r:N2->Hp->VK->Prop):Prop:=
 ∀(pins:Ny) (s:Shared) (σ:St) (H:Hp) (xs:N2) (us:L9) (Q:VK),Inv X pins σ H s->Vals xs us->r xs H Q->
  wpAny (model X.prog X.w) X.A (call f us) (EP X pins σ Q) X.xe s
def Ac(X:Cx)(r:V->Hp->(Bool->Hp->Prop)->Prop):Prop:=
 ∀(pins:Ny) (s:Shared) (σ:St) (H:Hp) (x:V) (v:Value) (Q:Bool->Hp->Prop),Inv X pins σ H s->RelV x v->r x H Q->
  wpAny (model X.prog X.w) X.A (truthy v) (TP X pins σ Q) X.xe s
def uG(r:R2)(ta tb:TE):TE:=λσ H Q=>ta σ H λx H1=>tb σ H1 λy H2=>r x y H2 Q
def E3(r:V->Hp->VK->Prop)(ta:TE):TE:=λσ H Q=>ta σ H λx H1=>r x H1 Q
def rI(C:Int->Int->Prop)(g:Int->Int->V):R2:=λx y H Q=>∃i j,x = .int i/\y = .int j/\C i j/\Q (g i j) H
def pe(g:Int->Int->V):R2:=λx y H Q=>∃i j,x = .int i/\y = .int j/\Q (g i j) H
noncomputable def rU(g:Int->V):V->Hp->VK->Prop:=λx H Q=>∃i,x = .int i/\Q (g i) H
section
variable{X:Cx}{a b c:Expr}{ta tb tc:TE}{pos:Pos}
def rN(k:PE X a ta)(l:PE X b tb){c:St}{H:Hp}{R:V->V->Hp->Prop}(I:Inv X pins c H s)
  (h:ta c H λx H1=>tb c H1 λy H2=>R x y H2) {Q:Nz} {f:Value->Value->Sem Value}
  (m:∀v u g x y H2,Inv X pins c H2 g->RelV x v->RelV y u->R x y H2->wpAny (model X.prog X.w) X.A (f v u) Q X.xe g) :
  wpAny (model X.prog X.w) X.A (eval a X.env) (λv d=>wpAny (model X.prog X.w) X.A (eval b X.env) (λu e=>wpAny (model X.prog X.w) X.A (f v u) Q X.xe e) X.xe d) X.xe s:=by
 erw[cC (k pins s c H _ I h) λv r z_=>?_];obtain⟨x,H1,i,p,n⟩:=z_
 erw[cC (l pins r c H1 _ i n) λu g z_=>?_];obtain⟨y,H2,j,q,o⟩:=z_
 rwa[m v u g x y H2 j p q o]
def ju(i:fH X (binaryOp op) r)(f:PE X a ta)(g:PE X b tb):PE X (.BinOp a op b pos) (uG r ta tb):=by
 intro c s m H Q I h;rwa[wpAny_BinOp (rN f g I h λv u l x y d e j k q=>i c l m d x y v u Q e j k q)]
def ZE{r:V->Hp->VK->Prop}(g:Ae X (unaryOp op) r)(f:PE X a ta):PE X (.UnaryOp op a pos) (E3 r ta):=by
 intro b s c H Q I h;erw[UnaryOp_ (cC (f b s c H _ I h) λv k z_=>?_)];let⟨x,d,e,j,i⟩:=z_;rwa[g b k c d x v Q e j i]
def wh{f:Value->Value->Sem Value}{C:Int->Int->Prop}{g:Int->Int->Int}
  (a:∀(i j:Int) (t u:Tok) (s:Shared) (Q:Nz) (E:Nz),C i j->Q (.int (g i j) s.toks) {s with toks:=s.toks+1}->wpAny (model X.prog X.w) X.A (f (.int i t) (.int j u)) Q E s) :
  fH X f (rI C λi j=>.int (g i j)):=by
 intro b s l H x y v u Q I d e h;let⟨i,j,rfl,rfl,c,q⟩:=h;let⟨t,rfl⟩:=d;let⟨k,rfl⟩:=e;rwa[a i j t k s _ _ c #[.int (g i j),H,I.tok _,#[_,rfl],q]]
def tW{f:Value->Value->Sem Value}{g:Int->Int->Int}
  (a:∀(i j:Int) (t u:Tok) (s:Shared) (Q:Nz) (E:Nz),Q (.int (g i j) s.toks) {s with toks:=s.toks+1}->wpAny (model X.prog X.w) X.A (f (.int i t) (.int j u)) Q E s) :
  fH X f (pe λi j=>.int (g i j)):=by
 intro b s k H x y v u Q I c d h;let⟨i,j,rfl,rfl,q⟩:=h;let⟨t,rfl⟩:=c;let⟨e,rfl⟩:=d;rwa[a i j t e s _ _ #[.int (g i j),H,I.tok _,#[_,rfl],q]]
def oX{f:Value->Value->Sem Value}{g:Int->Int->Bool}
  (a:∀(i j:Int) (t u:Tok) (s:Shared) (Q:Nz) (E:Nz),Q (.bool (g i j)) s->wpAny (model X.prog X.w) X.A (f (.int i t) (.int j u)) Q E s) :
  fH X f (pe λi j=>.bl (g i j)):=by
 intro b s k H x y v u Q I c d h;let⟨i,j,rfl,rfl,q⟩:=h;let⟨t,rfl⟩:=c;let⟨e,rfl⟩:=d;rwa[a i j t e s _ _ #[.bl (g i j),H,I,rfl,q]]
def nH(i j:Int):Prop:=0<=j/\j<=1000000/\i.natAbs<2^64
def jY:fH X (binaryOp .Add) (pe λi j=>.int (i+j)):=tW λZ Z Z Z Z Z Z q=>add_int q
def Qo:fH X (binaryOp .Sub) (pe λi j=>.int (i-j)):=tW λZ Z Z Z Z Z Z q=>sub_int q
def Jh:fH X (binaryOp .Mod) (rI (λZ j=>0<j) λi j=>.int (i%j)):=wh λi j Z Z Z Z Z a q=>by
 have b:(0:Int)<j:=a;rwa[mod_int' ⋯ (by rw[Int.fmod_eq_emod_of_nonneg i ⋯];rwa[q])]
def Yn:fH X (binaryOp .Pow) (rI nH λi j=>.int (i^j.toNat)):=wh λZ Z Z Z Z Z Z a q=>pow_int_small a.1 a.2.1 a.2.2 q
def Oj{f:Value->Sem Value}{g:Int->Int}
  (a:∀(i:Int) (t:Tok) (s:Shared) (Q:Nz) (E:Nz),Q (.int (g i) s.toks) {s with toks:=s.toks+1}->wpAny (model X.prog X.w) X.A (f (.int i t)) Q E s) :
  Ae X f (rU λi=>.int (g i)):=by
 intro b s d H x v Q I c h;let⟨i,rfl,q⟩:=h;let⟨t,rfl⟩:=c;rwa[a i t s _ _ #[.int (g i),H,I.tok _,#[_,rfl],q]]
def QM:Ae X (unaryOp .USub) (rU λi=>.int (-i)):=Oj λj j j j j q=>neg_int q
end
noncomputable def uq:V->V->Bool
 | .cV,.cV=>true | .cV,.int _=>true | .int _,.cV=>true | .cV,.bl _=>true | .bl _,.cV=>true | .cV,.str _=>true | .str _,.cV=>true
 | .int _,.int _=>true | .bl _,.bl _=>true | .str _,.str _=>true | .lO _,.lO _=>true
 | .int _,.str _=>true | .str _,.int _=>true | .bl _,.str _=>true | .str _,.bl _=>true
 | _,_=>false
def BL:R2:=λx y H Q=>uq x y=true/\Q (.bl (decide (x=y))) H
def EW:R2:=λx y H Q=>uq x y=true/\Q (.bl (!decide (x=y))) H
def Dc:decide (V.int i=V.int j)=(i==j):=by
 rw[Bool.eq_iff_iff];simp
def D1:decide (V.bl i=V.bl j)=(i==j):=by
 rw[Bool.eq_iff_iff];simp
def Dd:decide (V.str i=V.str j)=(i==j):=by
 rw[Bool.eq_iff_iff];simp
def C7:decide (V.lO i=V.lO j)=(i.toList==j.toList):=by
 rw[Bool.eq_iff_iff];cases i;cases j;simp
section
variable{X:Cx}{a b c:Expr}{ta tb tc:TE}{pos:Pos}
def j7{a:St}{H:Hp}(I:Inv X pins a H s)(q:Q (.bl k) H)(e:k=k'):EP X pins a Q (.bool k') s:=by
 subst e;rwa[.bl k,H,I,rfl,q]
def jZ:fH X (compareOp .Eq) BL:=by
 intro e s f H x y v u Q I d a h;let⟨c,q⟩:=h;cases x with
 | cV=>
  cases d;cases y with
  | cV=>cases a;rwa[PySem.EqNone.eq_none_none (j7 I q (by simp))]
  | bl j=>cases a;rwa[PySem.EqNone.eq_none_bool (j7 I q (by simp))]
  | int j=>let⟨b,rfl⟩:=a;rwa[PySem.EqNone.eq_none_int (j7 I q (by simp))]
  | str j=>let⟨b,rfl⟩:=a;rwa[PySem.EqNone.eq_none_str (j7 I q (by simp))]
  | _=>rwa[uf (show false=true from c) vF]
 | bl i=>
  cases d;cases y with
  | cV=>cases a;rwa[PySem.EqNone.eq_bool_none (j7 I q (by simp))]
  | bl j=>cases a;rwa[eq_bool (j7 I q D1)]
  | str j=>let⟨b,rfl⟩:=a;rwa[PySem.EqMixed.eq_bool_str (j7 I q (by simp))]
  | _=>rwa[uf (show false=true from c) vF]
 | int i=>
  let⟨t,rfl⟩:=d;cases y with
  | cV=>cases a;rwa[PySem.EqNone.eq_int_none (j7 I q (by simp))]
  | int j=>let⟨b,rfl⟩:=a;rwa[eq_int (j7 I q Dc)]
  | str j=>let⟨b,rfl⟩:=a;rwa[PySem.EqMixed.eq_int_str (j7 I q (by simp))]
  | _=>rwa[uf (show false=true from c) vF]
 | str i=>
  let⟨t,rfl⟩:=d;cases y with
  | cV=>cases a;rwa[PySem.EqNone.eq_str_none (j7 I q (by simp))]
  | bl j=>cases a;rwa[PySem.EqMixed.eq_str_bool (j7 I q (by simp))]
  | int j=>let⟨b,rfl⟩:=a;rwa[PySem.EqMixed.eq_str_int (j7 I q (by simp))]
  | str j=>let⟨b,rfl⟩:=a;rwa[eq_str (j7 I q Dd)]
  | _=>rwa[uf (show false=true from c) vF]
 | lO i=>
  let⟨t,rfl⟩:=d;cases y with
  | lO j=>let⟨b,rfl⟩:=a;rwa[PySem.W.eq_bytes (j7 I q C7)]
  | _=>rwa[uf (show false=true from c) vF]
 | _=>cases y<;>rwa[uf (show false=true from c) vF]
def EM:fH X (compareOp .NotEq) EW:=by
 intro e s f H x y v u Q I d a h;let⟨c,q⟩:=h;cases x with
 | cV=>
  cases d;cases y with
  | cV=>cases a;rwa[PySem.EqNone.ne_none_none (j7 I q (by simp))]
  | bl j=>cases a;rwa[PySem.EqNone.ne_none_bool (j7 I q (by simp))]
  | int j=>let⟨b,rfl⟩:=a;rwa[PySem.EqNone.ne_none_int (j7 I q (by simp))]
  | str j=>let⟨b,rfl⟩:=a;rwa[PySem.EqNone.ne_none_str (j7 I q (by simp))]
  | _=>rwa[uf (show false=true from c) vF]
 | bl i=>
  cases d;cases y with
  | cV=>cases a;rwa[PySem.EqNone.ne_bool_none (j7 I q (by simp))]
  | bl j=>cases a;rwa[ne_bool (j7 I q (congrArg not D1))]
  | str j=>let⟨b,rfl⟩:=a;rwa[PySem.EqMixed.ne_bool_str (j7 I q (by simp))]
  | _=>rwa[uf (show false=true from c) vF]
 | int i=>
  let⟨t,rfl⟩:=d;cases y with
  | cV=>cases a;rwa[PySem.EqNone.ne_int_none (j7 I q (by simp))]
  | int j=>let⟨b,rfl⟩:=a;rwa[ne_int (j7 I q (congrArg not Dc))]
  | str j=>let⟨b,rfl⟩:=a;rwa[PySem.EqMixed.ne_int_str (j7 I q (by simp))]
  | _=>rwa[uf (show false=true from c) vF]
 | str i=>
  let⟨t,rfl⟩:=d;cases y with
  | cV=>cases a;rwa[PySem.EqNone.ne_str_none (j7 I q (by simp))]
  | bl j=>cases a;rwa[PySem.EqMixed.ne_str_bool (j7 I q (by simp))]
  | int j=>let⟨b,rfl⟩:=a;rwa[PySem.EqMixed.ne_str_int (j7 I q (by simp))]
  | str j=>let⟨b,rfl⟩:=a;rwa[ne_str (j7 I q (congrArg not Dd))]
  | _=>rwa[uf (show false=true from c) vF]
 | lO i=>
  let⟨t,rfl⟩:=d;cases y with
  | lO j=>let⟨b,rfl⟩:=a;rwa[PySem.W.ne_bytes (j7 I q (congrArg not C7))]
  | _=>rwa[uf (show false=true from c) vF]
 | _=>cases y<;>rwa[uf (show false=true from c) vF]
def Ym:fH X (compareOp .Lt) (pe λi j=>.bl (decide (i<j))):=oX λZ Z Z Z Z Z Z q=>lt_int q
def vR:fH X (compareOp .LtE) (pe λi j=>.bl (decide (i<=j))):=oX λZ Z Z Z Z Z Z q=>le_int q
def YY:fH X (compareOp .Gt) (pe λi j=>.bl (decide (j<i))):=oX λZ Z Z Z Z Z Z q=>gt_int q
def EL:fH X (compareOp .GtE) (pe λi j=>.bl (decide (j<=i))):=oX λZ Z Z Z Z Z Z q=>ge_int q
def NB:fH X (compareOp .Is) (λx y H Q=>y = .cV/\Q (.bl (decide (x = .cV))) H):=by
 intro a s d H x y v u Q I b c h;let⟨rfl,q⟩:=h;cases c;erw[is_none_gen (j7 I q ?_)];cases x<;>first
  | (cases b;rfl)
  | (let⟨t,rfl⟩:=b;rfl)
def LS:fH X (compareOp .IsNot) (λx y H Q=>y = .cV/\Q (.bl (!decide (x = .cV))) H):=by
 intro a s d H x y v u Q I b c h;let⟨rfl,q⟩:=h;cases c;erw[isnot_none_gen (j7 I q ?_)];cases x<;>first
  | (cases b;rfl)
  | (let⟨t,rfl⟩:=b;rfl)
def bT(b:Expr)(h:op≠.In:=by decide)(d:op≠.NotIn:=by decide):behindInMarks op b=false:=by
 have a:(op==CmpOp.In)=false:=⋯
 have c:(op==CmpOp.NotIn)=false:=⋯
 cases b<;>simp[behindInMarks,a,c]
def As(j:fH X (compareOp op) r)(f:PE X a ta)(g:PE X b tb)(i:behindInMarks op b=false):PE X (.Compare a [op] [b] pos) (uG r ta tb):=by
 intro c s n H Q I h;rwa[wpAny_Compare1 (rN f g I h λv u m x y d e k l q=>j c m n d x y v u Q e k l q) i]
def oC(t:TE):TT:=λσ H Q=>t σ H λx H'=>∃k,x = .bl k/\Q k H'
def jt(t:fH X (compareOp op) r)(o:PE X a ta)(p:PE X b tb)(q:behindInMarks op b=false):PT X (.Compare a [op] [b] pos) (oC (uG r ta tb)):=by
 intro d s f H Q I h;refine wpAny_isTrue_Compare1 (cC (o d s f H _ I h) λv F ⟨x,g,l,C,w⟩=>cC (p d F f g _ l w) λu G ⟨y,i,m,D,A⟩=>
  cC (t d G f i x y v u _ m C D A) λc J ⟨z,j,n,E,k,e,B⟩=>?_) q
 subst e;cases E;rwa[wpAny_truthy_bool #[j,n,B]]
def oq(r r':R2)(ta tb tc:TE):TE:=λσ H Q=>ta σ H λx H1=>tb σ H1 λy H2=>r x y H2 λz H3=>∃k,z = .bl k/\
 (if k=true then tc σ H3 λw' H4=>r' y w' H4 Q else Q (.bl false) H3)
def HU(L:fH X (compareOp op) r)(i:fH X (compareOp op') r')(F:PE X a ta)(G:PE X b tb)(J:PE X c tc)
  (K:lastMarks [op,op'] [b,c]=false:=by with_unfolding_all rfl):PT X (.Compare a [op,op'] [b,c] pos) (oC (oq r r' ta tb tc)):=by
 intro f s g H Q I h;refine isTrue_chain (cC (F f s g H _ I h) λv Y ⟨x,o,w,S,N⟩=>test_link (cC (G f Y g o _ w N) λu Z ⟨y,p,A,n,O⟩=>
  cC (L f Z g p x y v u _ A S n O) λd s3 ⟨z,j,l,T,k,e,m⟩=>?_)) K
 subst e;cases T;erw[wpAny_truthy_bool ?_];cases k with
 | false=>
  let⟨k',D,M⟩:=m;cases D;rwa[ite_ff #[j,l,M]]
 | true=>
  erw[ite_tt (test_last (cC (J f s3 g j _ l m) λw' s4 z_=>?_))];let⟨z',q,B,U,P⟩:=z_;erw[cC (i f s4 g q y z' u w' _ B n U P) λd' s5 z_=>?_];obtain⟨z2,t,C,W,k2,E,R⟩:=z_;subst E;cases W;rwa[wpAny_truthy_bool #[t,C,R]]
def oQ(K:cp)(x:V)(H:Hp)(k:Bool):Prop:=
 match x with
 | .cV=>k=false
 | .bl b=>k=b
 | .int i=>k=(i != 0)
 | .str y=>⇑y<=sizeLine/\k=((⇑y:Int) != 0)
 | .lO y=>y.size<=sizeLine/\k=((y.size:Int) != 0)
 | .ref p=>(∃xs,bV K H p xs/\k = !xs.isEmpty)\/(∃xs,cw K H p xs/\k = !xs.isEmpty)\/∃kvs,H p⊂.dK kvs/\k = !kvs.isEmpty
 | _=>False
def Fx{κ:Type}{kvs:List (κ×V)}{vs:List (κ×Value)}(r:KV kvs vs):(!vs.isEmpty) = !kvs.isEmpty:=by
 cases r<;>rfl
def Ww{xs:N2}{a:L9}(r:Vals xs a):(!a.toArray.isEmpty) = !xs.isEmpty:=by
 cases r<;>simp
def gV:(sizeLine:Nat)<2^63:=by rw[sizeLine_eq];decide
def MO:Ac X (λx H Q=>∃k,oQ X.K x H k/\Q k H):=by
 intro w s D H x v Q I g h;let⟨k,e,q⟩:=h;have B:=gV;have C:sizeLine=16777216:=sizeLine_eq;cases x with
 | cV=>
  cases g;have a:k=false:=e;subst a;rwa[truthy_none #[H,I,q]]
 | bl b=>
  cases g;have a:k=b:=e;subst a;rwa[wpAny_truthy_bool #[H,I,q]]
 | int i=>
  let⟨t,rfl⟩:=g;have a:k=(i != 0):=e;subst a;rwa[PySem.P.truthy_int #[H,I,q]]
 | str y=>
  let⟨t,rfl⟩:=g;obtain⟨A,a⟩:⇑y<=sizeLine/\k=((⇑y:Int) != 0):=e;subst a;rwa[PySem.P.truthy_str ⋯ #[H,I.tok _,q]]
 | lO y=>
  let⟨t,rfl⟩:=g;obtain⟨A,a⟩:y.size<=sizeLine/\k=((y.size:Int) != 0):=e;subst a;rwa[PySem.W.truthy_bytes ⋯ #[H,I.tok _,q]]
 | ref p=>
  cases g;have a:(∃f,bV X.K H p f/\k = !f.isEmpty)\/(∃f,cw X.K H p f/\k = !f.isEmpty)\/∃c,H p⊂.dK c/\k = !c.isEmpty:=e;rcases a with⟨f,j,a⟩ | ⟨f,j,a⟩ | ⟨c,j,a⟩
  .subst a;let⟨n,r,o,u⟩:=I.list j;have d:=⇑r;rwa[wpAny_truthy_list o.isList (by simp only[size_toArray];lia) #[H,I.tok _,by rw[Ww r];rwa[q]]]
  .subst a;let⟨n,r,o,u⟩:=I.tuple j;have d:=⇑r;rwa[truthy_tuple o (by simp only[size_toArray];lia) #[H,I.tok _,by rw[Ww r];rwa[q]]]
  .subst a;obtain⟨u,z,l,r,m⟩:⇑c<=sizeLine/\(p==sysModules)=false/\∃l,KV c l/\s.heap.DictOf (cb X.prog X.w) p l:=I.cv p _ j;have d:⇑c=⇑l:=Paired.length r;rwa[wpAny_truthy_dict z m ⋯ #[H,I.tok _,by rw[Fx r];rwa[q]]]
 | _=>rwa[(show False from e).elim]
def HV(f:PE X a ta)(g:∀b,isTrue a X.env b=(do let v <-b;standAt a.pos;holding [v] (truthy v))) :
  PT X a (λσ H Q=>ta σ H λx H'=>∃k,oQ X.K x H' k/\Q k H'):=by
 intro c s σ H Q I h;erw[isTrue_plain (cC (f c s σ H _ I h) λv l z_=>?_) (g _)];let⟨x,d,e,j,i⟩:=z_;rwa[MO c l σ d x v Q e j i]
def yq:fH X (binaryOp .Add) (λx y H Q=>∃i j,x = .str i/\y = .str j/\⇑i+⇑j<=sizeLine/\Q (.str (i++j)) H):=by
 intro a s g H x y v u Q I c d h;let⟨i,j,rfl,rfl,b,q⟩:=h;let⟨t,rfl⟩:=c;let⟨e,rfl⟩:=d;rwa[add_str (λe f=>#[.str (i++j),H,I.tok _,#[_,rfl],q]) b]
def vals1(r:Vals [x] us):∃u,us=[u]/\RelV x u:=by
 cases r with
 | cons r1 r2=>cases r2;rwa[_,rfl,r1]
def vals2(r:Vals [x,y] us):∃u a,us=[u,a]/\RelV x u/\RelV y a:=by
 cases r with
 | cons r1 r2=>
  cases r2 with
  | cons r3 r4=>cases r4;rwa[_,_,rfl,r1,r3]
def Wc:c8 X (.builtin "abs") (λxs H Q=>∃i,xs=[.int i]/\Q (.int (if i<0 then -i else i)) H):=by
 intro a s d H xs c Q I r h;let⟨i,rfl,q⟩:=h;let⟨u,rfl,t,rfl⟩:=vals1 r;rwa[call_abs_int λu b=>#[.int (if i<0 then -i else i),H,I.tok _,#[_,rfl],q]]
def GN(c:X.calm=true):c8 X (.builtin "max") (λxs H Q=>∃i j,xs=[.int i,.int j]/\Q (.int (if j>i then j else i)) H):=by
 intro b s m H xs g Q I r h;let⟨i,j,rfl,q⟩:=h;let⟨u,l,rfl,⟨t,rfl⟩,⟨e,rfl⟩⟩:=vals2 r;erw[max_two_ints (I.ok.hd c) λd f k=>#[_,H,I.kept k,?_,q]]
 by_cases a:j>i
 .rw[vd a,vd a];rwa[_,rfl]
 .rw[vc a,vc a];rwa[_,rfl]
def KD(c:X.calm=true):c8 X (.builtin "min") (λxs H Q=>∃i j,xs=[.int i,.int j]/\Q (.int (if j<i then j else i)) H):=by
 intro b s m H xs g Q I r h;let⟨i,j,rfl,q⟩:=h;let⟨u,l,rfl,⟨t,rfl⟩,⟨e,rfl⟩⟩:=vals2 r;erw[min_two_ints (I.ok.hd c) λd f k=>#[_,H,I.kept k,?_,q]]
 by_cases a:j<i
 .rw[vd a,vd a];rwa[_,rfl]
 .rw[vc a,vc a];rwa[_,rfl]
def sS(K:cp)(x:V)(H:Hp)(n:Nat):Prop:=
 match x with
 | .str y=>⇑y<=sizeLine/\n=⇑y
 | .lO y=>y.size<=sizeLine/\n=y.size
 | .ref p=>(∃xs,bV K H p xs/\n=⇑xs)\/∃xs,cw K H p xs/\n=⇑xs
 | _=>False
def jR:c8 X (.builtin "len") (λxs H Q=>∃x n,xs=[x]/\sS X.K x H n/\Q (.int n) H):=by
 intro j s w H xs v Q I r h;let⟨x,n,rfl,e,q⟩:=h;let⟨u,rfl,i⟩:=vals1 r;have m:=gV;have o:sizeLine=16777216:=sizeLine_eq;cases x with
 | str y=>
  let⟨t,rfl⟩:=i;obtain⟨k,b⟩:⇑y<=sizeLine/\n=⇑y:=e;subst b;rwa[len_str ⋯ #[.int _,H,I.tok _,#[_,rfl],q]]
 | lO y=>
  let⟨t,rfl⟩:=i;obtain⟨k,b⟩:y.size<=sizeLine/\n=y.size:=e;subst b;rwa[PySem.W.len_bytes ⋯ #[.int _,H,I.tok _,#[_,rfl],q]]
 | ref p=>
  cases i;have b:(∃xs,bV X.K H p xs/\n=⇑xs)\/∃xs,cw X.K H p xs/\n=⇑xs:=e;rcases b with⟨xs,c,b⟩ | ⟨xs,c,b⟩
  .subst b;let⟨d,g,f,l⟩:=I.list c;have a:=⇑g;rwa[Calls.call_len_list f.isList (by simp only[size_toArray];lia) #[.int ⇑xs,H,I.tok _,#[_,by simp only[size_toArray];rw[a]],q]]
  .subst b;let⟨d,g,f,l⟩:=I.tuple c;have a:=⇑g;rwa[len_tuple f (by simp only[size_toArray];lia) #[.int ⇑xs,H,I.tok _,#[_,by simp only[size_toArray];rw[a]],q]]
 | _=>rwa[(show False from e).elim]
end
structure my(h:Heap)(x dx C:Addr)(mA:Nw):Prop where
 obj:h.get? x⊂(PySem.W.instObj C dx)
 ns:h.Ns1 dx mA
 ne:dx≠x
def Gq{h:Heap}{c:Addr}{f:Nw}(n:h.Ns1 c f):∃g,h.get? c⊂g/\∀name,PySem.W.lookIn name g⊂(f name):=by
 let⟨o,d,r,m,j,k,Z,l⟩:=n;erw[o,m,λname=>?_];have e:=l name;unfold nsFind findBy at e;rw[<-Array.find?_toList]at e;unfold PySem.W.lookIn;rw[j];dsimp only;split
 .rename_i y q;rw[q]at e;rwa[congrArg some e]
 .rename_i q;rw[q]at e;have a:d.toList.any (·.refKey)=false:=by
   rw[List.any_eq_false];intro y p;let⟨z,t,b⟩:=k y (Array.mem_toList_iff.mp p);simp[DictEntry.refKey,b]
  have i:¬d.toList.any (·.refKey)=true:=by rw[a];rwa[vF]
  rw[vc i];rwa[congrArg some e]
def my.look{b:Nw}(I:my h x dx C b):∃a,PySem.W.InstAt h x (PySem.W.instObj C dx) C (some a)/\∀name,PySem.W.lookIn name a⊂(b name):=
 let ⟨a,ho,hl⟩:=Gq I.ns
 #[a,#[I.obj,rfl,rfl,ho],hl]
section
variable{prog:Program}{w:World}{A:Around}{E:Nz}{s:Shared}{K:cp}{x dx C f:Addr}{mA:Nw}{name:Str}{v:Value}
def IU{Q:Nz}(X:K.In s.heap)(I:my s.heap x dx C mA)(c:PySem.W.plainGet K C name=true)(d:PySem.W.hasDictIn K C=true)
  (b:PySem.W.findIn K (.ref C) name⊂none) (f:mA name⊂v) (a:PySem.W.handedIn v=true) (h:Q v {s with toks:=s.toks+1}) :
  wpAny (model prog w) A (getAttr (.ref x) name expr) Q E s:=by
 let⟨g,J,e⟩:=I.look;rwa[PySem.W.get_value X J (PySem.W.plainGet_of c).1 (PySem.W.findObj_own d b rfl (by rw[e,f])) a h]
def HA{Q:Value×L9->Shared->Prop}(X:K.In s.heap)(I:my s.heap x dx C mA)(a:PySem.W.plainGet K C name=true)
  (b:PySem.W.findIn K (.ref C) name⊂(↥f)) (d:PySem.W.isFn K (.ref f)=true) (e:mA name=none) (h:Q (.ref f,[.ref x]) s) :
  wpAny (model prog w) A (getMethod (.ref x) name pl) Q E s:=by
 let⟨g,J,c⟩:=I.look;rwa[PySem.W.method_fn X J (PySem.W.plainGet_of a).1 (PySem.W.plainGet_of a).2 b (beq_iff_eq.mp d) (by show(PySem.W.lookIn name g).map (·.isSome)⊂false;rw[c,e];rfl) h]
def Mq{Q:Unit->Shared->Prop}(X:K.In s.heap)(I:my s.heap x dx C mA)
  (o:PySem.W.findIn K (.ref C) "__setattr__"= some (some (.builtin "object.__setattr__"))) (n:PySem.W.plainOver K C=true) (p:PySem.W.takerIn K C name⊂none) (m:PySem.W.hasDictIn K C=true)
  (hw:PySem.Within mA ns) (hsz:⇑ns<=sizeLine)
  (h:∀h',my h' x dx C (λy=>if y=name then some v else mA y)->Heap.SameBut dx s.heap h'->Q () {s with heap:=h',toks:=s.toks+2}) :
  wpAny (model prog w) A (setAttr (.ref x) name v) Q E s:=by
 let⟨B,J,u⟩:=I.look;erw[PySem.W.set_plain X J o (PySem.W.osa_open (s:={s with toks:=s.toks+1}) (r:=none) X J n p λb=>?_)];let⟨t,l,f⟩:=PySem.W.any_some m;have q:s.heap.get? x=some #[.ref C,some dx,.plain,#[]]:=I.obj;erw[uh (ug (uh (uh (wpAny_loadPart q (uh (PySem.W.Looks.here (s:={s with toks:=s.toks+1}) (PySem.W.looks_clsIn X l) ?_))))))];rw[f];erw[ug (a:=some dx) (uh (ug (uh ?_)))];erw[wpAny_nsSet1 (s:={s with toks:=s.toks+1}) I.ns λh' c d=>?_]
 let⟨z,k,j,i,g,e⟩:=c.count (PySem.Within.cons name v hw);erw[uh (wpAny_lookBehind i (by rw[g];rwa[pastItsLine_dict (vW e (by rw[vQ];lia))]) ?_)];rwa[ug (h _ #[(d.2 _ (Ne.symm I.ne)).trans I.obj,c,I.ne] d)]
def Ie{R:Result->Shared->Prop}(X:K.In s.heap)(c:PySem.W.makesIn K C=true)
  (hi:PySem.W.findIn K (.ref C) "__init__"= some (↥f)) (b:PySem.W.typeIn K (.ref f)⊂(.type "function"))
  (h:codeAny (model prog w) (A.under (.builtin "type.__call__" #[.ref C::vs,kw])) (.call (.ref f) #[.ref (s⁻¹+1)::vs,kw]) (PySem.W.InitBack (s⁻¹+1) R)
   {s with heap:=(s.heap.push PySem.W.emptyDict).push (PySem.W.instObj C s⁻¹)}) :
  codeAny (model prog w) A (.call (.ref C) #[vs,kw]) R s:=by
 let⟨e,g,d,t,i⟩:=s;rwa[PySem.W.make_core (PySem.W.makes_of X c) (PySem.W.looks_findIn X hi) (λa=>PySem.W.bind_fn X a b) (.inl rfl) h]
end
noncomputable def cq(f:Str)(v:V):List (Str×V)->List (Str×V)
 | []=>[(f,v)]
 | (g,x)::r=>if g=f then(g,v)::r else(g,x)::cq f v r
theorem ZD(f g:Str)(v:V):∀fs:List (Str×V),(cq f v fs).lookup g=if g=f then some v else fs.lookup g
 | []=>by
  show List.lookup g [(f,v)]=_;by_cases h:g=f
  .have a:(g==f)=true:=beq_iff_eq.mpr h;simp only[List.lookup,a,if_pos h]
  .have a:(g==f)=false:=beq_eq_false_iff_ne.mpr h;simp only[List.lookup,a,if_neg h]
 | (k,x)::r=>by
  have c:=ZD f g v r;rw[show cq f v ((k,x)::r)=(if k=f then(k,v)::r else(k,x)::cq f v r)from rfl];by_cases b:k=f
  .rw[vd b];by_cases h:g=k
   .have a:(g==k)=true:=beq_iff_eq.mpr h;simp only[List.lookup,a,if_pos (h.trans b)]
   .have a:(g==k)=false:=beq_eq_false_iff_ne.mpr h;simp only[List.lookup,a,if_neg (λe:g=f=>h (e.trans b.symm))]
  .rw[vc b];by_cases h:g=k
   .have a:(g==k)=true:=beq_iff_eq.mpr h;simp only[List.lookup,a,if_neg (λe:g=f=>b (h.symm.trans e))]
   .have a:(g==k)=false:=beq_eq_false_iff_ne.mpr h;simp only[List.lookup,a];rwa[c]
theorem KS(f:Str)(v:V):∀fs:List (Str×V),f∈(cq f v fs).map (·.1)/\∀g,g∈fs.map (·.1)->g∈(cq f v fs).map (·.1)
 | []=>#[by simp[cq],λg h=>by simp at h]
 | (k,x)::r=>by
  let⟨a,b⟩:=KS f v r;rw[show cq f v ((k,x)::r)=(if k=f then(k,v)::r else(k,x)::cq f v r)from rfl]
  grind
theorem wu(f:Str)(v:V):∀fs:List (Str×V),⇑(cq f v fs)<=⇑fs+1
 | []=>by simp[cq]
 | (k,x)::r=>by
  have b:=wu f v r;rw[show cq f v ((k,x)::r)=(if k=f then(k,v)::r else(k,x)::cq f v r)from rfl];by_cases a:k=f
  .rw[vd a,vQ,vQ];lia
  .rw[vc a,vQ,vQ];lia
def fP.some_of(r:fP (some v) o):∃u,o⊂u/\RelV v u:=by
 cases o with
 | none=>rwa[(show False from r).elim]
 | some u=>rwa[u,rfl,r]
def fP.none_of(r:fP none o):o=none:=by
 cases o with
 | none=>rfl
 | some u=>rwa[(show False from r).elim]
def Gd(r:RelV v u):PySem.W.handedIn u=true:=by
 cases v with
 | cV=>cases(show u=Value.none from r);rfl
 | bl b=>cases(show u=Value.bool b from r);rfl
 | int i=>let⟨t,e⟩:=(show∃t,u=Value.int i t from r);cases e;rfl
 | str x=>let⟨t,e⟩:=(show∃t,u=Value.str x t from r);cases e;rfl
 | lO b=>let⟨t,e⟩:=(show∃t,u=Value.bytes b t from r);cases e;rfl
 | pL b=>let⟨t,e⟩:=(show∃t,u=Value.float b t from r);cases e;rfl
 | ref a=>cases(show u=Value.ref a from r);rfl
 | ty n=>cases(show u=Value.type n from r);rfl
section
variable{P:Program}{w:World}{H H':Hp}{h h':Heap}{a C dx:Addr}{fs fs':List (Str×V)}
def wL(b:eX P w H h)(e:H a⊂.ins C dx fs):∃mA,my h a dx C mA/\(∀f,fP (fs.lookup f) (mA f))/\PySem.Within mA (fs.map (·.1))/\⇑fs<=1000/\H dx⊂(.own a):=by
 let⟨d,z,c,g,mA,n,r,q⟩:=(show cm P w H h a (.ins C dx fs)from b a _ e)
 rwa[mA,#[g,n,c],r,q,z,d]
end
structure lX(K:cp)(C:Addr):Prop where
 pg:PySem.W.plainGet K C Str.empty=true
 hd:PySem.W.hasDictIn K C=true
 po:PySem.W.plainOver K C=true
 sa:PySem.W.findIn K (.ref C) "__setattr__"= some (some (.builtin "object.__setattr__"))
def lX.get{K:cp}{C:Addr}(c:lX K C)(f:Str):PySem.W.plainGet K C f=true:=c.pg
def cT(K:cp)(C:Addr)(f:Str):Prop:=PySem.W.findIn K (.ref C) f⊂none
def cT.uO{K:cp}{C:Addr}{f:Str}(n:cT K C f):PySem.W.takerIn K C f⊂none:=by
 unfold PySem.W.takerIn;rw[show PySem.W.findIn K (.ref C) f⊂none from n];rfl
structure Meth(K:cp)(C:Addr)(m:Str)(f:Addr):Prop where
 at_:PySem.W.findIn K (.ref C) m⊂(↥f)
 fn:PySem.W.isFn K (.ref f)=true
 kp:PySem.W.keepIn K (.ref f)=true
section
variable{X:Cx}{pins:Ny}{σ:St}{H:Hp}{s:Shared}{a C dx:Addr}{fs:List (Str×V)}{f:Str}{v:V}{A:Around}{E:Nz}
def Wt{Q:Nz}(I:Inv X pins σ H s)(e:H a⊂.ins C dx fs)(c:lX X.K C)(n:cT X.K C f)(l:fs.lookup f⊂v)
  (h:∀u s',Inv X pins σ H s'->RelV v u->Q u s'):wpAny (model X.prog X.w) A (getAttr (.ref a) f b) Q E s:=by
 let⟨i,O,r,q,q,q⟩:=wL I.cv e;let⟨u,g,d⟩:=fP.some_of (v:=v) (o:=i f) (by rw[<-l];rwa[r f]);rwa[IU I.fT O (c.get f) c.hd n g (Gd d) (h u _ (I.tok _) d)]
def Y7{Q:Value×L9->Shared->Prop}(I:Inv X pins σ H s)(e:H a⊂.ins C dx fs)(c:lX X.K C)(k:Meth X.K C m g)(l:fs.lookup m=none)
  (h:Q (.ref g,[.ref a]) s):wpAny (model X.prog X.w) A (getMethod (.ref a) m pl) Q E s:=by
 let⟨d,O,r,q,q,q⟩:=wL I.cv e;have b:d m=none:=fP.none_of (by rw[<-l];rwa[r m]);rwa[HA I.fT O (c.get m) k.at_ k.fn b h]
def WU{Q:Unit->Shared->Prop}(I:Inv X pins σ H s)(e:H a⊂.ins C dx fs)(c:lX X.K C)(n:cT X.K C f)(D:⇑fs<1000)(w:RelV y u)
  (h:∀s',Inv X pins σ (upd H a (.ins C dx (cq f y fs))) s'->Q () s'):wpAny (model X.prog X.w) A (setAttr (.ref a) f u) Q E s:=by
 let⟨j,O,r,k,Z,i⟩:=wL I.cv e;have v:⇑(fs.map (·.1))<=sizeLine:=by rw[vt,sizeLine_eq];lia
 erw[Mq I.fT O c.sa c.po n.uO c.hd k v λl d B=>h _ ?_]
 have p:∃o,l.get? dx⊂o:=let ⟨o,_,_,e',_⟩:=d.ns;#[o,e'];erw[I.write (x:=a) (e:=dx) (by rw[e];rwa[True.intro]) (.inr i) (λb q m z=>(B.2 b m).trans z) p ?_];erw[by rw[jh O.ne];rwa[i],?_,O.ne,d.obj,_,d.ns,λg=>?_,λg t=>?_]
 .have:=wu f y fs;lia
 .show fP ((cq f y fs).lookup g) (if g=f then some u else j g);rw[ZD];by_cases q:g=f
  .rw[vd q,vd q];rwa[w]
  simp_all
 .by_cases q:g=f
  .rw[q];rwa[(KS f y fs).1]
  .refine(KS f y fs).2 g (k g λz=>t ?_);show(if g=f then some u else j g)=none;rw[vc q];rwa[z]
def Inv.made(I:Inv X pins σ H s):Inv X pins σ (upd (upd H s⁻¹ (.own (s⁻¹+1))) (s⁻¹+1) (.ins C s⁻¹ []))
  {s with heap:=(s.heap.push PySem.W.emptyDict).push (PySem.W.instObj C s⁻¹)}:=by
 have c:(s.heap.push PySem.W.emptyDict).get? s⁻¹⊂PySem.W.emptyDict:=Heap.get?_push_size s.heap rfl;have g:((s.heap.push PySem.W.emptyDict).push (PySem.W.instObj C s⁻¹)).get? (s⁻¹+1)⊂(PySem.W.instObj C s⁻¹):=by
  have:=Heap.get?_push_size (s.heap.push PySem.W.emptyDict) (o:=PySem.W.instObj C s⁻¹) rfl
  rwa [Heap.size_push]at this
 have h:(s.heap.push PySem.W.emptyDict).Ns s⁻¹ (λZ=>none):=#[PySem.W.emptyDict,#[],_,c,rfl,(λe i=>uf i (by simp)),λZ=>rfl]
 have f:=I.laid (a:=s⁻¹) (o:=.own (s⁻¹+1)) (h':=s.heap.push PySem.W.emptyDict) (t':=s.toks) (λb u q=>vJ _ q) (vb _) #[_,c];erw[f.laid (a:=s⁻¹+1) (o:=.ins C s⁻¹ []) (t':=s.toks) (λb u q=>vJ _ q) (Nat.le_of_eq (Heap.size_push _ _)) ?_];have d:s⁻¹≠s⁻¹+1:=vE (Nat.lt_succ_self _);erw[by rw[jh d,jA],va _,d,g,λZ=>none,(Heap.Ns1.of_empty h).at λo q=>vJ _ q,λZ=>True.intro,λy j=>uf rfl j]
def IC{f:Str}{s:Shared}{Q:Nz}(b:attributeBase e f env (eval e env)=eval e env)
  (h:wpAny (model prog w) A (eval e env) (λo a=>wpAny (model prog w) A (getAttr o f true) Q E a) E s):wpAny (model prog w) A (eval (.Attribute e f pos) env) Q E s:=
 Attribute_any_ h (by rw[arm_eval_Attribute,b])
end
def uB(K:cp)(ta:TE)(f:Str):TE:=λσ H Q=>ta σ H λx H1=>∃a C dx fs v,x = .ref a/\H1 a⊂.ins C dx fs/\lX K C/\cT K C f/\fs.lookup f⊂v/\Q v H1
def um(K:cp)(ta tv:TE)(f:Str):TS:=λD σ H=>tv σ H λy H1=>ta σ H1 λx H2=>∃a C dx fs,x = .ref a/\H2 a⊂.ins C dx fs/\lX K C/\cT K C f/\⇑fs<1000/\
 D.nx σ (upd H2 a (.ins C dx (cq f y fs)))
def sN(X:Cx)(op:Operator)(rd:V->V->Hp->VK->Prop):Prop:=
 ∀(pins:Ny) (s:Shared) (σ:St) (H:Hp) (x y:V) (u v:Value) (Q:VK),Inv X pins σ H s->RelV x u->RelV y v->rd x y H Q->wpAny (model X.prog X.w) X.A (inplaceOp op u v) (EP X pins σ Q) X.xe s
def pj(K:cp)(ta tv:TE)(rd:V->V->Hp->VK->Prop)(f:Str):TS:=λD σ H=>ta σ H λx H1=>∃a C dx fs v,x = .ref a/\H1 a⊂.ins C dx fs/\lX K C/\cT K C f/\fs.lookup f⊂v/\
 tv σ H1 λy H2=>rd v y H2 λz H3=>∃dx' fs',H3 a⊂.ins C dx' fs'/\⇑fs'<1000/\D.nx σ (upd H3 a (.ins C dx' (cq f z fs')))
section
variable{X:Cx}{o e value:Expr}{f:Str}{pos pos' tpos:Pos}{ta tv:TE}
def Ji(o:PE X e ta)(m:attributeBase e f X.env (eval e X.env)=eval e X.env):PE X (.Attribute e f pos) (uB X.K ta f):=by
 intro b s t H Q I h;erw[IC m (cC (o b s t H _ I h) λu z z_=>?_)];obtain⟨x,d,g,r,a,C,w,y,v,k,j,c,n,l,q⟩:=z_;subst k;obtain rfl:u=Value.ref a:=r;rwa[Wt g j c n l λB A i p=>#[v,d,i,p,q]]
def yu(p:PE X o ta)(t:PE X value tv)(r:swapsWith value (some (.Attribute o f pos')) pos.line X.env=pure false):PS X (.Assign [.Attribute o f pos'] value pos) (um X.K ta tv f):=by
 intro b s d H D I h;erw[plainObj_wpAny_Assign_Attribute (cC (t b s d H _ I h) λu A z_=>?_) r];let⟨y,e,g,z,q⟩:=z_;erw[cC (p b A d e _ g q) λov G z_=>?_];obtain⟨x,B,i,w,a,C,E,F,m,k,c,n,l,v⟩:=z_;subst m;obtain rfl:ov=Value.ref a:=w;rwa[WU i k c n l z λJ j=>#[d,_,j,v]]
def GV{op:Operator}{i:V->V->Hp->VK->Prop}(G:PE X o ta)(J:PE X value tv)(g:sN X op i):PS X (.AugAssign (.Attribute o f tpos) op value pos) (pj X.K ta tv i f):=by
 intro b s d H D I h;erw[wpAny_AugAssign_AttributeAny (cC (G b s d H _ I h) λov Z z_=>?_)];obtain⟨x,j,m,O,a,C,W,Y,v,E,B,c,n,l,q⟩:=z_;subst E;obtain rfl:ov=Value.ref a:=O;erw[Wt m B c n l λu R p N=>cC (J b R d j _ p q) λT S ⟨y,k,r,P,L⟩=>cC (g b S d k v y u T _ r N P L) λw4 s4 ⟨z,U,t,Q,A,F,e,K,M⟩=>?_]
 rwa[WU t e c n K Q λs5 w=>#[d,_,w,M]]
noncomputable def BJ:V->V->Hp->VK->Prop:=λx y H Q=>∃i j,x = .int i/\y = .int j/\Q (.int (i+j)) H
def MC:sN X .Add BJ:=by
 rintro a s e H x y u v Q I c d ⟨i,j,rfl,rfl,q⟩;let⟨t,rfl⟩:=(show∃t,u=Value.int i t from c)
 let⟨b,rfl⟩:=(show∃b,v=Value.int j b from d)
 rwa[PyProof.Rows.iadd_int #[.int (i+j),H,I.tok _,#[_,rfl],q]]
end
section
variable{X:Cx}{pins:Ny}{σ:St}{H:Hp}{s:Shared}{A:Around}{E:Nz}{Q:Nz}{c:Value}{b:Bool}
inductive gO(K:cp)(H:Hp):V->Value->Prop where
 | cV:gO K H .cV (.type "NoneType")
 | bl (x:Bool):gO K H (.bl x) (.type "bool")
 | int (i:Int):gO K H (.int i) (.type "int")
 | str (x:Str):gO K H (.str x) (.type "str")
 | pL (x:UInt64):gO K H (.pL x) (.type "float")
 | lst {a:Addr} {xs:N2} (e:H a⊂.lst xs):gO K H (.ref a) (.type "list")
 | gM {a:Addr} {o:Obj} {xs:N2} (e:H a⊂(.gM o (.lst xs))):gO K H (.ref a) (.type "list")
 | tup {a:Addr} {xs:N2} (e:H a⊂.tup xs):gO K H (.ref a) (.type "tuple")
 | dK {a:Addr} {kvs:List (Key×V)} (e:H a⊂.dK kvs):gO K H (.ref a) (.type "dict")
 | dT {a:Addr} {kvs:List (List Key×V)} (e:H a⊂.dT kvs):gO K H (.ref a) (.type "dict")
 | ins {a C dx:Addr} {fs:List (Str×V)} (e:H a⊂.ins C dx fs) (cl:lX K C) (ha:PySem.W.findIn K (.ref C) "__class__"= some (some (.builtin "object.__class__")))
   (hn:PySem.W.specialIn K (.builtin "object.__class__") "__get__"= some (some (.builtin "getset_descriptor.__get__"))) (htk:PySem.W.takesIn K (.builtin "object.__class__")⊂true)
   (hm:PySem.W.mroIn K C (.type "object")⊂true):gO K H (.ref a) (.ref C)
def Gh(I:Inv X pins σ H s)(d:RelV x u)(m:gO X.K H x t)(e:PySem.W.kitOne X.K t c⊂b)(h:∀tk,Q (.bool b) {s with toks:=tk}) :
  wpAny (model X.prog X.w) A (call (.builtin "isinstance") [u,c]) Q E s:=by
 cases m with
 | cV=>cases(show u=Value.none from d);rwa[PySem.W.kia_one PySem.W.kitx_none I.fT True.intro e (λz=>nomatch z) h]
 | bl y=>cases(show u=Value.bool y from d);rwa[PySem.W.kia_one PySem.W.kitx_bool I.fT True.intro e (λz=>nomatch z) h]
 | int i=>let⟨t,q⟩:=(show∃t,u=Value.int i t from d);cases q;rwa[PySem.W.kia_one PySem.W.kitx_int I.fT True.intro e (λz=>nomatch z) h]
 | str y=>let⟨t,q⟩:=(show∃t,u=Value.str y t from d);cases q;rwa[PySem.W.kia_one PySem.W.kitx_str I.fT True.intro e (λz=>nomatch z) h]
 | pL y=>let⟨t,q⟩:=(show∃t,u=Value.float y t from d);cases q;rwa[PySem.W.kia_one PySem.W.kitx_float I.fT True.intro e (λz=>nomatch z) h]
 | @lst a g ea=>
  cases(show u=Value.ref a from d);let⟨Z,Z,n,Z,f⟩:=(show cm X.prog X.w H s.heap a (.lst g)from I.cv a _ ea)
  rwa[PySem.W.kia_one PySem.W.kitx_list I.fT #[_,f,rfl] e (λz=>nomatch z) h]
 | @gM a ob g ea=>
  cases(show u=Value.ref a from d);let⟨Z,Z,Z,n,Z,f⟩:=(show cm X.prog X.w H s.heap a (.gM ob (.lst g))from I.cv a _ ea)
  rwa[PySem.W.kia_one PySem.W.kitx_list I.fT #[_,f,rfl] e (λz=>nomatch z) h]
 | @tup a g ea=>
  cases(show u=Value.ref a from d);let⟨Z,Z,Z,p⟩:=(show cm X.prog X.w H s.heap a (.tup g)from I.cv a _ ea)
  let⟨o,f,j,Z⟩:=p;rwa[PySem.W.kia_one PySem.W.kitx_tuple I.fT #[o,f,j] e (λz=>nomatch z) h]
 | @dK a kvs ea=>
  cases(show u=Value.ref a from d);let⟨Z,Z,w,Z,p⟩:=(show cm X.prog X.w H s.heap a (.dK kvs)from I.cv a _ ea)
  let⟨o,l,k,f,j,Z⟩:=p;rwa[PySem.W.kia_one PySem.W.kitx_dict I.fT #[o,f,j.1] e (λz=>nomatch z) h]
 | @dT a kvs ea=>
  cases(show u=Value.ref a from d);let⟨Z,Z,g,Z,o,l,k,f,j,Z⟩:=(show cm X.prog X.w H s.heap a (.dT kvs)from I.cv a _ ea)
  rwa[PySem.W.kia_one PySem.W.kitx_dict I.fT #[o,f,j.1] e (λz=>nomatch z) h]
 | @ins a C dx fs ea cl ha hn htk hm=>
  cases(show u=Value.ref a from d);let⟨r,O,Z⟩:=wL I.cv ea;let⟨v,J,Z⟩:=O.look;rwa[PySem.W.kia_one (PySem.W.kitx_own (cl.get _) cl.hd ha hn htk hm) I.fT J e (λz=>nomatch z) h]
end
structure dg(k:Nat)(A:Around):Prop where
 hd:A.handled=none
 dp:A.depth+3*k+5<recursionLimit
 un:A.units+16*k+200<cLine
def dg.mono(r:dg k A)(h:j<=k):dg j A:=#[r.hd,by have:=r.dp;lia,by have:=r.un;lia]
def dg.deeper(r:dg (k+1) A)(env:Env):dg k (A.deeper env):=
 #[r.hd,by have:=r.dp;show A.depth+1+3*k+5<_;lia,by have:=r.un;show A.units+3+16*k+200<_;lia]
def Fy{A:Around}{C:Addr}{us:L9}{a:List (Str×Value)}:(A.under (.builtin "type.__call__" #[.ref C::us,a])).depth=A.depth+1:=by
 first | rfl | simp[Around.under,Code.weight,Code.isCreation,Code.isGuard,Code.isCaller,Code.frames,Code.isFrame,guardIds]
def FG{A:Around}{C:Addr}{us:L9}{a:List (Str×Value)}:(A.under (.builtin "type.__call__" #[.ref C::us,a])).units=A.units+1:=by
 first | rfl | simp[Around.under,Code.cUnits,Code.frames,Code.isFrame]
def dg.make(r:dg (k+1) A)(C:Addr)(us:L9)(a:List (Str×Value)):dg k (A.under (.builtin "type.__call__" #[.ref C::us,a])):=
 #[r.hd,by have:=r.dp;rw[Fy];lia,by have:=r.un;rw[FG];lia]
def dg.depth(r:dg k A):A.depth<recursionLimit:=by have:=r.dp;lia
def dg.units(r:dg k A):A.units+64<cLine:=by have:=r.un;lia
def pk:TA:=λq H Q=>Q [] H
def pZ(ta:TE)(tr:TA):TA:=λσ H Q=>ta σ H λx H1=>tr σ H1 λxs H2=>Q (x::xs) H2
section
variable{X:Cx}{e:Expr}{es:Nt}{te:TE}{t:TA}{pos:Pos}
def jc:PA X [] pk:=λq q q q H Q I h=>Calls.spliced_nil #[[],H,I,.nil,h]
def ja(j:PE X e te)(k:PA X es t)(l:starEach (e::es) X.env=(false,eval e X.env)::starEach es X.env:=by rfl):PA X (e::es) (pZ te t):=by
 intro b a s c H Q I h;rw[l];show wpAny _ _ (spliced ((false,eval e X.env)::backTo b (starEach es X.env))) _ _ s;erw[Calls.spliced_cons (cC (j a s c H _ I h) λu q z_=>?_)];obtain⟨x,d,g,o,m⟩:=z_;erw[cC (k b a q c d _ g m) λw v z_=>?_];let⟨r,f,i,p,n⟩:=z_;rwa[x::r,f,i,.cons o p,n]
def uL(t:TA):TE:=λσ H Q=>t σ H λxs H1=>⇑xs<=sizeLine/\∀p,H1 p=none->Q (.ref p) (upd H1 p (.tup xs))
def uE(t:TA):TE:=λσ H Q=>t σ H λxs H1=>⇑xs<=sizeLine/\∀p,H1 p=none->Q (.ref p) (upd H1 p (.lst xs))
def jH{x1}(h:PA X es t):PE X (.Tuple es x1 pos) (uL t):=by
 intro a s l H Q I i;erw[wpAny_Tuple_spliced (cC (h pos a s l H _ I i) λj c ⟨k,d,f,r,z,q⟩=>#[by rw[<-⇑r];rwa[z],?_])];have g:d c⁻¹=none:=f.cv.fresh (vb _);erw[.ref c⁻¹,upd d c⁻¹ (.tup k),f.laid (t':=c.toks) (λb u e=>vJ _ e) (vb _) ?_,rfl,q _ g];rwa[z,j,r,#[_,Heap.get?_push_size _ rfl,rfl,_,rfl]]
def jK(h:PA X es t):PE X (.List es pos) (uE t):=by
 intro a s l H Q I i;erw[wpAny_List_spliced (cC (h pos a s l H _ I i) λj c ⟨k,d,f,r,z,q⟩=>#[by rw[<-⇑r];rwa[z],?_])];have g:d c⁻¹=none:=f.cv.fresh (vb _);erw[.ref c⁻¹,upd d c⁻¹ (.lst k),f.laid (t':=c.toks) (λb u e=>vJ _ e) (vb _) ?_,rfl,q _ g];rwa[z,j,0,r,Heap.get?_push_size _ rfl]
end
noncomputable abbrev Sp:=N2->Hp->VK->XK->Prop
noncomputable abbrev nz:=List Env->Hp->Shared->XK->Value->Shared->Prop
structure mi(P:Program)(w:World)(K:cp)(mg:Nw)(base:Heap)(A:Around)(outer:Nr)(s:Shared)(H:Hp):Prop where
 frames:A.frames⊂outer
 mod:Mod K mg base
 bs:∀b o,base.get? b⊂o->s.heap.get? b⊂o/\H b=none
 nU:base.objs.size<=s⁻¹
 gA:s.heap.FunFrames base outer
 oS:∀b∈fc outer,H b=none
 cv:eX P w H s.heap
 bare:AllBare s.gens
def CE(outer:Nr)(P:Program)(w:World)(H:Hp)(s:Shared)(Q:VK)(u:Value)(s':Shared):Prop:=
 ∃v H',s'.os=s.os/\AllBare s'.gens/\Un (fc outer) [] H H' s.heap s'.heap/\eX P w H' s'.heap/\RelV v u/\Q v H'
def CR(CX:nz)(outer:Nr)(P:Program)(w:World)(H:Hp)(s:Shared)(Q:VK)(E:XK)(r:Result)(s':Shared):Prop:=
 match r with
 | .ok (.ret u)=>CE outer P w H s Q u s'
 | .ok _=>False
 | .error e=>CX outer H s E e s'
structure dP(P:Program)(w:World)(K:cp)(mg:Nw)(base:Heap)(CX:nz)(k:Nat)(f:Addr)(fd:FuncData)(ps:L8)(sp:Sp):Prop where
 len:∀vs H Q E,sp vs H Q E->⇑vs=⇑ps
 run:∀(A:Around) (outer:Nr) (s:Shared) (H:Hp) (args:Args) (us:L9) (vs:N2) (Q:VK) (E:XK),dg k A->mi P w K mg base A outer s H->BindsTo s fd args (ps.zip us)->Vals vs us->sp vs H Q E->
  codeAny (model P w) A (.call (.ref f) args) (CR CX outer P w H s Q E) s
def dP.mono{P:Program}{w:World}{K:cp}{e:Nw}{a:Heap}{CX:nz}{j k:Nat}{f:Addr}{d:FuncData}{ps:L8}{sp:Sp}(F:dP P w K e a CX j f d ps sp)(h:j<=k) :
  dP P w K e a CX k f d ps sp:=#[F.len,λA b s H c i l Q E g=>F.run A b s H c i l Q E (g.mono h)]
def mi.make{P:Program}{w:World}{K:cp}{c:Nw}{b:Heap}{A:Around}{a:Nr}{s:Shared}{H:Hp}(e:mi P w K c b A a s H)(C:Addr)(us:L9)(d:List (Str×Value)) :
  mi P w K c b (A.under (.builtin "type.__call__" #[.ref C::us,d])) a s H:=#[by first | exact e.frames | (simpa [Around.under,Code.envs,Code.isFrame,pushEnvs]using e.frames),e.mod,e.bs,e.nU,e.gA,e.oS,e.cv,e.bare]
section
variable{X:Cx}{pins:Ny}{σ:St}{H:Hp}{s s':Shared}
def Inv.rP(I:Inv X pins σ H s):mi X.prog X.w X.K X.mg X.base X.A X.stack s H:=
 #[I.ok.frames,I.ok.mod,I.bs,vW I.ok.nU I.sz,I.stack,I.ie,I.cv,I.bare]
def Inv.after(I:Inv X pins σ H s)(h:CE X.stack X.prog X.w H s Q u s'):EP X pins σ Q u s':=by
 let⟨v,f,j,a,k,c,r,q⟩:=h;let⟨i,g,d,t,e⟩:=s';obtain rfl:e=s.os:=j;rwa[v,f,I.call (h':=i) (g':=g) (d':=d) (t':=t) (ch:=[]) k c a (λb z=>uf z (by simp)),r,q]
end
def oo(sp:Sp)(dvs:N2)(E:XK)(t:TA):TE:=λσ H Q=>t σ H λvs H1=>sp (vs++dvs) H1 Q E
def oB(C:Addr)(m:Str)(sp:Sp)(dvs:N2)(E:XK)(ta:TE)(t:TA):TE:=λσ H Q=>ta σ H λx H1=>∃a dx fs,x = .ref a/\H1 a⊂.ins C dx fs/\fs.lookup m=none/\
 t σ H1 λvs H2=>sp (x::(vs++dvs)) H2 Q E
def rh(C:Addr)(sp:Sp)(dvs:N2)(E:XK)(t:TA):TE:=λσ H Q=>t σ H λvs H1=>∀x dx,H1 x=none->H1 dx=none->dx≠x->
 sp (.ref x::(vs++dvs)) (upd (upd H1 dx (.own x)) x (.ins C dx [])) (λv H2=>v = .cV/\Q (.ref x) H2) E
def Binds(K:cp)(fd:FuncData)(ps:L8)(ds:L9):Prop:=
 ∀(s:Shared) (us:L9),K.In s.heap->⇑(us++ds)=⇑ps->BindsTo s fd #[us,[]] (ps.zip (us++ds))
def Binds.all{K:cp}{a:FuncData}{ps:L8}(h:∀us:L9,⇑us=⇑ps->bindArgs a #[us,[]]=pure (ps.zip us)):Binds K a ps []:=λs us q b=>by
 rw[append_nil]at b|-;rwa[.of_eq (h us b)]
def Passes(CX:nz)(X:Cx)(E:XK):Prop:=∀(pins:Ny) (σ:St) (H:Hp) (s:Shared) (e:Value) (s':Shared),Inv X pins σ H s->CX X.stack H s E e s'->X.xe e s'
section
variable{X:Cx}{CX:nz}{k:Nat}{f C:Addr}{fd:FuncData}{ps:L8}{sp:Sp}{dvs:N2}{ds:L9}{E:XK}{x m:Str}{p pos apos:Pos}{e o:Expr}{es:Nt}{ta:TE}{t:TA}
def Bj{b:St}{H:Hp}(F:dP X.prog X.w X.K X.mg X.base CX k f fd ps sp)(j:dg k X.A)(d:Binds X.K fd ps ds)(g:Vals dvs ds)(l:Passes CX X E)
  (I:Inv X pins b H s) (r:Vals vs us) (h:sp (vs++dvs) H Q E):wpAny (model X.prog X.w) X.A (call (.ref f) us) (EP X pins b Q) X.xe s:=by
 have c:Vals (vs++dvs) (us++ds):=r.append g;have i:⇑(us++ds)=⇑ps:=by rw[<-⇑c];rwa[F.len _ _ _ _ h]
 erw[wpAny_call (codeAny_mono (F.run X.A X.stack s H #[us,[]] (us++ds) (vs++dvs) Q E j I.rP (d s us I.fT i) c h) λr m a=>?_)];cases r with
 | error e=>rwa[l pins b H s e m I a]
 | ok fl=>
  cases fl with
  | ret u=>rwa[I.after a]
  | next=>rwa[False.elim a]
  | brk=>rwa[False.elim a]
  | cont=>rwa[False.elim a]
def kY(F:dP X.prog X.w X.K X.mg X.base CX k f fd ps sp)(u:dg k X.A)(m:Gl X x)(o:X.mg x=↥f)(n:PySem.W.keepIn X.K (.ref f)=true)(i:Binds X.K fd ps ds)(j:Vals dvs ds)(v:Passes CX X E)
  (g:PA X (e::es) t) (b:(x==("__debug__" : Str))=false:=by decide) (l:starEach (e::es) X.env=(false,eval e X.env)::starEach es X.env:=by rfl) (c:(backTo pos (starEach es X.env)).any (·.1)=false:=by rfl) :
  PE X (.Call (.Name x p) (e::es) [] pos) (oo sp dvs E t):=by
 intro a s w H Q I h;erw[wpAny_Call_Name_kw (kK I m o ?_ b)];erw[PySem.W.callWith_K (h₀:=X.base) I.ok.mod.sJ n (cC (g pos a s w H _ I h) λB z z_=>?_) l c];let⟨C,y,d,r,q⟩:=z_;erw[d.fT,?_];rwa[Bj F u i j v d r q]
def kZ(G:PE X o ta)(c:lX X.K C)(n:Meth X.K C m f)(F:dP X.prog X.w X.K X.mg X.base CX k f fd ps sp)(J:dg k X.A)(B:Binds X.K fd ps ds)(D:Vals dvs ds)(L:Passes CX X E)(z:PA X (e::es) t)
  (g:starEach (e::es) X.env=(false,eval e X.env)::starEach es X.env:=by rfl) (d:(backTo pos (starEach es X.env)).any (·.1)=false:=by rfl)
  (K:eval (.Call (.Attribute o m apos) (e::es) [] pos) X.env=(do
   let ov <-eval o X.env
   standAt apos.atName
   let (f,first) <-holding [ov] (getMethod ov m pl)
   callWith pos f first (backTo pos (starEach (e::es) X.env)) (backToKw pos (keywordEach [] X.env))):=by rfl) :
  PE X (.Call (.Attribute o m apos) (e::es) [] pos) (oB C m sp dvs E ta t):=by
 intro b s p H Q I h;erw[PySem.W.methodCall_KW (pl:=pl) (cC (G b s p H _ I h) λu O z_=>?_) K];obtain⟨x,v,i,N,a,R,S,y,w,l,q⟩:=z_;subst y;obtain rfl:u=Value.ref a:=N;erw[Y7 i w c n l ?_];erw[PySem.W.callWith_K (first:=[.ref a]) (h₀:=X.base) I.ok.mod.sJ n.kp (cC (z pos b O p v _ i q) λus T z_=>?_) g d];let⟨vs,P,j,r,M⟩:=z_;erw[j.fT,?_];rwa[Bj (us:=.ref a::us) (vs:=.ref a::vs) F J B D L j (.cons rfl r) M]
def Zh{pl:Sem Bool}(p:PE X o ta)(c:lX X.K C)(e:Meth X.K C m f)(F:dP X.prog X.w X.K X.mg X.base CX k f fd ps sp)(r:dg k X.A)(j:Binds X.K fd ps ds)(n:Vals dvs ds)(v:Passes CX X E)
  (t:eval (.Call (.Attribute o m apos) [] [] pos) X.env=(do
   let ov <-eval o X.env
   standAt apos.atName
   let (f,first) <-holding [ov] (getMethod ov m pl)
   callWith pos f first (backTo pos (starEach [] X.env)) (backToKw pos (keywordEach [] X.env))):=by rfl) :
  PE X (.Call (.Attribute o m apos) [] [] pos) (oB C m sp dvs E ta pk):=by
 intro b s y H Q I h;erw[PySem.W.methodCall_KW (pl:=pl) (cC (p b s y H _ I h) λu G z_=>?_) t];obtain⟨x,z,d,w,a,B,D,i,g,l,q⟩:=z_;subst i;obtain rfl:u=Value.ref a:=w;erw[Y7 d g c e l ?_];rwa[PySem.W.callWith_K0 (first:=[.ref a]) d.fT e.kp (Bj (us:=[.ref a]) (vs:=[.ref a]) F r j n v d (.cons rfl .nil) q)]
structure Mk(K:cp)(C f:Addr):Prop where
 makes:PySem.W.makesIn K C=true
 init:PySem.W.findIn K (.ref C) "__init__"= some (↥f)
 fn:PySem.W.isFn K (.ref f)=true
 kp:PySem.W.keepIn K (.ref C)=true
def Kp{c:St}{H:Hp}(M:Mk X.K C f)(F:dP X.prog X.w X.K X.mg X.base CX k f fd ps sp)(p:dg (k+1) X.A)(m:Binds X.K fd ps ds)(n:Vals dvs ds)
  (q:Passes CX X E) (I:Inv X pins c H s) (r:Vals vs us)
  (h:∀x dx,H x=none->H dx=none->dx≠x->sp (.ref x::(vs++dvs)) (upd (upd H dx (.own x)) x (.ins C dx [])) (λv H2=>v = .cV/\Q (.ref x) H2) E) :
  wpAny (model X.prog X.w) X.A (call (.ref C) us) (EP X pins c Q) X.xe s:=by
 have d:=h (s⁻¹+1) s⁻¹ (I.cv.fresh (Nat.le_succ _)) (I.cv.fresh (vb _)) (vE (Nat.lt_succ_self _));have b:=Inv.made (C:=C) I;have g:Vals (V.ref (s⁻¹+1)::(vs++dvs)) (Value.ref (s⁻¹+1)::(us++ds)):=.cons rfl (r.append n);have o:⇑(Value.ref (s⁻¹+1)::us++ds)=⇑ps:=by
  have e:=⇑g;rw[F.len _ _ _ _ d]at e;rwa[e.symm]
 refine wpAny_call (Ie (f:=f) I.fT M.makes M.init (beq_iff_eq.mp M.fn) (codeAny_mono (F.run _ X.stack _ _ #[Value.ref (s⁻¹+1)::us,[]] (Value.ref (s⁻¹+1)::(us++ds)) _ _ E (p.make C us [])
  (b.rP.make C us []) (m _ (Value.ref (s⁻¹+1)::us) b.fT o) g d) λr y a=>?_))
 cases r with
 | error e=>rwa[q pins c _ _ e y b a]
 | ok fl=>
  cases fl with
  | ret u=>
   let⟨v,i,j,w,l,t⟩:=b.after a;subst l;rwa[w,#[V.ref (s⁻¹+1),i,j,rfl,t]]
  | next=>rwa[False.elim a]
  | brk=>rwa[False.elim a]
  | cont=>rwa[False.elim a]
def DG(M:Mk X.K C f)(F:dP X.prog X.w X.K X.mg X.base CX k f fd ps sp)(o:dg (k+1) X.A)(m:Gl X x)(n:X.mg x=↥C)(i:Binds X.K fd ps ds)(j:Vals dvs ds)(u:Passes CX X E)
  (g:PA X (e::es) t) (b:(x==("__debug__" : Str))=false:=by decide) (l:starEach (e::es) X.env=(false,eval e X.env)::starEach es X.env:=by rfl) (c:(backTo pos (starEach es X.env)).any (·.1)=false:=by rfl) :
  PE X (.Call (.Name x p) (e::es) [] pos) (rh C sp dvs E t):=by
 intro a s v H Q I h;erw[wpAny_Call_Name_kw (kK I m n ?_ b)];erw[PySem.W.callWith_K (h₀:=X.base) I.ok.mod.sJ M.kp (cC (g pos a s v H _ I h) λz y z_=>?_) l c];let⟨B,w,d,r,q⟩:=z_;erw[d.fT,?_];rwa[Kp M F o i j u d r q]
end
structure bW(N P:L8)(sc:Scope):Prop where
 kind:sc.kind = .function
 co:sc.isCoroutine=false
 gen:sc.isGenerator=false
 nd:N.Nodup
 pre:N.take ⇑P=P
 par:∀x∈P,sc.names.lookup x⊂.local\/sc.names.lookup x⊂.cell
 rX:∀y∈sc.names,y.2≠.free
theorem xy{b:Str->Option NameKind}:∀{a:List (Str×Value)} {m:Nw},(∀v,(x,v)∉a)->bindL b a m x=m x
 | [],_,_=>rfl
 | (n,v)::r,m,h=>by
  unfold bindL;rw[xy λw c=>h w (vp _ c)];split
  .have:x≠n:=by rintro rfl;exact h v vq
   simp[this]
  .rfl
theorem xv{b:Str->Option NameKind}:∀{a:List (Str×Value)} {m:Nw},(∀v,(x,v)∉a)->bindC b a m x=m x
 | [],_,_=>rfl
 | (n,v)::r,m,h=>by
  unfold bindC;rw[xv λw c=>h w (vp _ c)];split
  .rfl
  .have:x≠n:=by rintro rfl;exact h v vq
   simp[this]
theorem xw{a:Str->Option NameKind}:∀{P:L8} {vs:L9} {i:Nat} {m:Nw},P.Nodup->P[i]?⊂x->vs[i]?⊂v->a x⊂.local->
  bindL a (P.zip vs) m x⊂v
 | [],_,_,_,_,h,_,_=>by simp at h
 | _::_,[],_,_,_,_,h,_=>by simp at h
 | p::P,w::vs,0,m,nd,h1,h2,hk=>by
  simp at h1 h2;subst h1;subst h2;show bindL a ((p,w)::P.zip vs) m p=_;unfold bindL;rw[xy λv b=>(uo.mp nd).1 (of_mem_zip b).1,vd hk];simp
 | p::P,w::vs,i+1,m,nd,h1,h2,hk=>by
  show bindL a ((p,w)::P.zip vs) m x=_;unfold bindL;rwa[xw (i:=i) (uo.mp nd).2 #v[h1] #v[h2] hk]
theorem xu{a:Str->Option NameKind}:∀{P:L8} {vs:L9} {i:Nat} {m:Nw},P.Nodup->P[i]?⊂x->vs[i]?⊂v->a x≠some .local->
  bindC a (P.zip vs) m x⊂v
 | [],_,_,_,_,h,_,_=>by simp at h
 | _::_,[],_,_,_,_,h,_=>by simp at h
 | p::P,w::vs,0,m,nd,h1,h2,hk=>by
  simp at h1 h2;subst h1;subst h2;show bindC a ((p,w)::P.zip vs) m p=_;unfold bindC;rw[xv λv b=>(uo.mp nd).1 (of_mem_zip b).1,vc hk];simp
 | p::P,w::vs,i+1,m,nd,h1,h2,hk=>by
  show bindC a ((p,w)::P.zip vs) m x=_;unfold bindC;rwa[xu (i:=i) (uo.mp nd).2 #v[h1] #v[h2] hk]
noncomputable def start(N:L8)(vs:N2):St:=vs.map some++List.replicate (⇑N-⇑vs) none
noncomputable def dh(CX:nz)(P:Program)(w:World)(K:cp)(mg:Nw)(base:Heap)(N:L8)(qual:Str)(scope:Scope)(f:Addr)(cd:Value)(A:Around)(outer:Nr)(s:Shared)(H:Hp)(E:XK):Cx where
 prog:=P
 w:=w
 K:=K
 mg:=mg
 base:=base
 A:=A.deeper (envOfC qual scope s⁻¹ f cd)
 N:=N
 s₀:=s
 H₀:=H
 env:=envOfC qual scope s⁻¹ f cd
 outer:=outer
 stack:=envOfC qual scope s⁻¹ f cd::outer
 ex:=[]
 calm:=true
 fn:=λq=>true
 pn:=[]
 xe:=λe s'=>wpAny (model P w) (A.deeper (envOfC qual scope s⁻¹ f cd)) (leaving (envOfC qual scope s⁻¹ f cd) e) (λq s''=>CX outer H s E e s'') (λe' s''=>CX outer H s E e' s'') s'
def Cz{a:Scope}{n:Nat}{x:Str}(h:a.names.lookup x⊂.cell):∃c,(cellsFrom n a.names []).lookup x⊂c:=by
 have q:=PySem.W.cellsFrom_some a.names n [] (.inl h);rwa[Option.isSome_iff_exists.mp q]
def xO{CX:nz}{P:Program}{w:World}{K:cp}{J:Nw}{m:Heap}{N ps:L8}{j:Str}{d:Scope}{f:Addr}{F:Value}{A:Around}{g:Nr}{s O:Shared}{H:Hp}{E:XK}{us:L9}{vs:N2}
  (S:bW N ps d) (R:A.handled=none) (o:mi P w K J m A g s H) (X:⇑vs=⇑ps) (r:Vals vs us)
  (x:InCallC s s⁻¹ (bindL (envOfC j d s⁻¹ f F).kindOf (ps.zip us) λZ=>none) (cellsFrom (s⁻¹+1) d.names []) (bindC (envOfC j d s⁻¹ f F).kindOf (ps.zip us) λZ=>none) O) :
  Inv (dh CX P w K J m N j d f F A g s H E) [] (start N vs) H O:=by
 have T:⇑ps<=⇑N:=by have:=congrArg List.length S.pre;rw[vi]at this;lia
 let⟨G,Y,rfl,L⟩:=x.done;have B:∀b:Addr,b∉(dh CX P w K J m N j d f F A g s H E).ex:=λb z=>uf (show b∈([]:L7)from z) (by simp)
 refine#[#[o.mod,S.kind,rfl,rfl,vb _,λy z c G l=>?_,λy t=>?_,λy c Z h=>?_,λZ=>R,Around.frames_deeper o.frames,.inr #[rfl,rfl],λb z=>uf z (B b),o.bs,o.nU,λb Z Z=>B b,λb z=>uf z (B b),o.gA,o.oS],
  rfl,o.bare,Un.kept L,#[_,x.toInCall.ns,λi y v G l W=>?_],λy c h=>#[_,x.cell y c h],o.cv.fresh (vb _),λy c h=>?_,λp C=>uf (show p∈([]:Ny)from C) (by simp),o.cv.kept L,?_]
 .exact name_of_addr x.apart (PySem.mem_of_lookup G) (PySem.mem_of_lookup l)
 .have t:d.names.lookup y⊂.cell\/d.names.lookup y⊂.free:=t;rcases t with t | t
  .exact Cz t
  .exact uf rfl (S.rX _ (PySem.mem_of_lookup t))
 .exact vY (x.above y c (PySem.mem_of_lookup h))
 .have I:i<⇑vs:=by
   unfold start at l;by_cases I:i<⇑vs
   .exact I
   .rw[vC #v[I]]at l;rw[List.getElem?_replicate]at l;split at l<;>cases l
  have Q:vs[i]?⊂v:=by
   unfold start at l;rw[vB #v[I],vv]at l;cases e:vs[i]? with
   | none=>rw[e]at l;cases l
   | some a=>rw[e]at l;cases l;rfl
  let⟨u,M,U⟩:=r.get Q;have C:ps[i]?⊂y:=by
   rw[<-S.pre,List.getElem?_take_of_lt ⋯];rwa[G]
  have D:ps.Nodup:=by rw[<-S.pre];rwa[S.nd.sublist (take_sublist _ _)]
  erw[u,U,?_];rcases S.par y (vm C)with k | k
  .exact .inl #[k,xw D C M k]
  .let⟨c,e⟩:=Cz (n:=s⁻¹+1) k;erw[.inr #[.inl k,c,e,?_]];have q:=x.cell y c e;rw[xu D C M (by show d.names.lookup y≠_;rw[k];decide)]at q;rwa[q]
 .exact o.cv.fresh (vY (x.above y c (PySem.mem_of_lookup h)))
 .unfold start;show _=⇑N
  simp_all
def MY{CX:nz}{P:Program}{w:World}{K:cp}{G:Nw}{g:Heap}{k:Nat}{f:Addr}{name c:Str}{i:Arguments}{j:List Stmt}{a:Scope}{Z kV B pm d Y oc:Value}{an od:Option Addr}
  {R:Array (Nv)} {N ps:L8} {sp:Sp} (lk:K.lookup f=some #[oc,od,.func (PySem.W.fnOf name c i j a Z kV B pm an d Y),R]) (L:PySem.W.codeIn K d c=true) (S:bW N ps a)
  (len:∀vs H Q E,sp vs H Q E->⇑vs=⇑ps)
  (m:∀(A:Around) (outer:Nr) (s:Shared) (H:Hp) (vs:N2) (Q:VK) (E:XK),dg k (A.deeper (envOfC c a s⁻¹ f d))->sp vs H Q E->
   ∃t,lu (dh CX P w K G g N c a f d A outer s H E) j t/\t {nx:=λ_ H'=>Q .cV H',rt:=Q} (start N vs) H) :
  dP P w K G g CX (k+1) f (PySem.W.fnOf name c i j a Z kV B pm an d Y) ps sp:=by
 erw[len,λA outer s H X us vs Q E M C hb r F=>?_];have hl:=len _ _ _ _ F;have W:K.In s.heap:=C.mod.sJ.keeps λb o e=>(C.bs b o e).1
 have O:s.heap.NoLimit:=C.mod.nolimit.keeps λb o e=>(C.bs b o e).1
 have p:∀y∈ps.zip us,a.names.lookup y.1⊂.local\/(a.names.lookup y.1⊂.cell/\((cellsFrom (s⁻¹+1) a.names []).lookup y.1).isSome=true):=λ⟨n,v⟩ hy=>by
  rcases S.par n (of_mem_zip hy).1 with q | q
  .exact .inl q
  .exact .inr #[q,PySem.W.cellsFrom_some _ _ _ (.inl q)]
 erw[codeAny_call_function M.depth (W _ _ lk) rfl S.co S.gen rfl (PySem.W.codeRec_of W L) (hb _ _ _ _ ?_)];erw[wpAny_newFunctionEnv_cells S.kind p λa0 he s1 x=>?_]
 subst he;erw[O.keeps x.toInCall.keep,codeAny_func ?_];let⟨t,ht,hq⟩:=m A outer s H vs Q E (M.deeper _) F;have I:Inv (dh CX P w K G g N c a f d A outer s H E) [] (start N vs) H s1:=xO S M.hd C hl r x;erw[wpAny_mono (ht [] s1 (start N vs) H _ I hq) (λfl U z=>?_) λe U z=>z]
 have D:∀{l:St} {H':Hp} {v:V} {u:Value},Inv (dh CX P w K G g N c a f d A outer s H E) [] l H' U->RelV v u->Q v H'->CE outer P w H s Q u U:=
  λ{l H' v u} J T q=>#[v,H',J.os,J.bare,J.base,J.cv,T,q]
 cases fl with
 | ret u=>
  let⟨v,l,H',J,T,q⟩:=z;rwa[D J T q]
 | next=>
  let⟨l,H',J,q⟩:=z;rwa[D (v:=V.cV) (u:=Value.none) J rfl q]
 | brk=>
  let⟨_,_,_,q⟩:=z;rwa[False.elim q]
 | cont=>
  let⟨_,_,_,q⟩:=z;rwa[False.elim q]
section
variable{X:Cx}{x:Str}{p pos:Pos}{e:Expr}{es:Nt}{t:TA}{id T:String}{r:N2->Hp->VK->Prop}
def BS(r:N2->Hp->VK->Prop)(t:TA):TE:=λσ H Q=>t σ H λvs H1=>r vs H1 Q
def jB(j:c8 X (.builtin id) r)(l:Gl X x)(m:X.mg x=none)(o:bootBuiltins x⊂.builtin id)(i:PA X (e::es) t)(n:x≠"__name__":=by decide)(b:(x==("__debug__" : Str))=false:=by decide)
  (k:starEach (e::es) X.env=(false,eval e X.env)::starEach es X.env:=by rfl) (c:(backTo pos (starEach es X.env)).any (·.1)=false:=by rfl):PE X (.Call (.Name x p) (e::es) [] pos) (BS r t):=by
 intro a s d H Q I h;erw[wpAny_Call_Name_kw (Zd I l m o ?_ n b)];erw[PyProof.Rows.callWith_builtin1 (cC (i pos a s d H _ I h) λw v z_=>?_) k c];let⟨y,f,g,u,q⟩:=z_;rwa[j a v d f y w Q g u q]
def j6(j:c8 X (.type T) r)(l:Gl X x)(m:X.mg x=none)(o:bootBuiltins x⊂.type T)(i:PA X (e::es) t)(n:x≠"__name__":=by decide)(b:(x==("__debug__" : Str))=false:=by decide)
  (k:starEach (e::es) X.env=(false,eval e X.env)::starEach es X.env:=by rfl) (c:(backTo pos (starEach es X.env)).any (·.1)=false:=by rfl):PE X (.Call (.Name x p) (e::es) [] pos) (BS r t):=by
 intro a s d H Q I h;erw[wpAny_Call_Name_kw (Zd I l m o ?_ n b)];erw[PyProof.Rows.callWith_type1 (cC (i pos a s d H _ I h) λw v z_=>?_) k c];let⟨y,f,g,u,q⟩:=z_;rwa[j a v d f y w Q g u q]
end
end L2
namespace HT
open PySem PyProof.Rows
section
variable{prog:Program}{w:World}{A:Around}{E:Nz}{s:Shared}
def IE{t b:Addr}{vs a:L9}{Q:Nz}(z:IsTup s.heap t vs.toArray)(y:IsTup s.heap b a.toArray)(q:vs≠[])
  (v:a=[]->Q (.ref t) s) (x:a≠[]->Q (.ref s⁻¹) {s with heap:=s.heap.push {cls:=.type "tuple",data:=.seq (vs++a).toArray}})
  (hsz:⇑vs+⇑a<=sizeLine):wpAny (model prog w) A (binaryOp .Add (.ref t) (.ref b)) Q E s:=by
 let⟨⟨cls,m,data,u⟩,i,o,n,p⟩:=id z;let⟨⟨l,d,k,h⟩,c,f,r,g⟩:=id y;simp only at o p f g;subst o p f g;have e:vs.toArray++a.toArray=(vs++a).toArray:=by simp
 by_cases j:a=[]
 .exact concat_meets #[_,i,rfl] #[_,c,rfl] noFill_tuple_add seq_tuple_add PySem.F.slot_tuple_add PySem.F.entry_tuple_add (PySem.F.args_tuple_add_2 _ _)
   (tuple_addW1 t b vs.toArray a.toArray n r m d u h #v[q] (by simp[j])) #[i,c,v j]
 .refine concat_meets #[_,i,rfl] #[_,c,rfl] noFill_tuple_add seq_tuple_add PySem.F.slot_tuple_add PySem.F.entry_tuple_add (PySem.F.args_tuple_add_2 _ _)
   (tuple_addW2 t b vs.toArray a.toArray n r m d u h #v[q] #v[j] (by simp_all)) #[i,c,?_]
  rw[e];rwa[x j]
noncomputable def dD(n d:Nat):Option Int->Nat
 | none=>d
 | some v=>if v<0 then(v+(n:Int)).toNat else min v.toNat n
def ML(n d:Nat)(b:d<=n)(o:Nu):dD n d o<=n:=by
 cases o with
 | none=>rwa[b]
 | some v=>
  show(if v<0 then(v+(n:Int)).toNat else min v.toNat n)<=n;by_cases a:v<0
  .rw[vd a];lia
  .rw[vc a];rwa[Nat.min_le_right _ _]
def C5(v:Int)(n d:Nat):(if v<0 then max (v+(n:Int)) 0 else min v (n:Int))=((dD n d (some v):Nat):Int):=by
 show(if v<0 then max (v+(n:Int)) 0 else min v (n:Int))=(((if v<0 then(v+(n:Int)).toNat else min v.toNat n):Nat):Int)
 by_cases a:v<0
 .simp only[if_pos a];lia
 .simp only[if_neg a];lia
def FF(lo hi:Nu)(n:Nat):Builtin.Slice.sliceAdjust lo hi 1 (n:Int)=(((dD n 0 lo:Nat):Int),((dD n n hi:Nat):Int)):=by
 have a:¬((1:Int)<0):=⋯
 unfold Builtin.Slice.sliceAdjust;simp only[a,if_false];erw[Prod.ext ?_ ?_]
 .cases lo with
  | none=>rfl
  | some v=>rwa[C5 v n 0]
 .cases hi with
  | none=>rfl
  | some v=>rwa[C5 v n n]
def FU(i j:Nat):Builtin.Slice.slicePlaces (i:Int) (j:Int) 1=j-i:=by
 unfold Builtin.Slice.slicePlaces;have a:(1:Int)>0:=⋯
 simp only[a,if_true,Int.ediv_one];split<;>lia
def iB{Q:Option Int->Shared->Prop}(p:IsPart v o)(h:Q o s):wpAny (model prog w) A (Builtin.Slice.slicePartIndex v) Q E s:=by
 cases p with
 | none=>rwa[slicePart_none h]
 | int i t=>rwa[slicePart_int h]
def K8{e:Addr}{c d:Value}{lo hi:Nu}{n:Nat}{Q:Int×Int×Nat->Shared->Prop}(g:s.heap.IsSliceOf e c d .none)(pl:IsPart c lo)(i:IsPart d hi)
  (h:Q (((dD n 0 lo:Nat):Int),1,dD n n hi-dD n 0 lo) s):wpAny (model prog w) A (Builtin.Slice.sliceApplied (.ref e) (pure (n:Int))) Q E s:=by
 let⟨j,b,f,a⟩:=id g;unfold Builtin.Slice.sliceApplied Builtin.Slice.sliceFields;erw[uh (uh (wpAny_field b a (x:=c) rfl (uh (wpAny_field b a (x:=d) rfl (uh (wpAny_field b a (x:=.none) rfl (ug ?_)))))))];erw[uh (slicePart_none ?_)];show wpAny _ _ (if((1:Int)==0)=true then _ else _) _ _ s;rw[vc nofun];erw[uh (iB pl (uh (iB i (uh (ug ?_)))))];show wpAny _ _ (match Builtin.Slice.sliceAdjust lo hi 1 (n:Int)with | (lo,hi)=>pure (lo,(1:Int),Builtin.Slice.slicePlaces lo hi 1)) _ _ s;rw[FF lo hi n];show wpAny _ _ (pure (((dD n 0 lo:Nat):Int),(1:Int),Builtin.Slice.slicePlaces ((dD n 0 lo:Nat):Int) ((dD n n hi:Nat):Int) 1)) _ _ s;rw[FU];rwa[ug h]
def HQ(xs:Array Value)(i k:Nat):((List.range k).filterMap λ(m:Nat)=>xs[((i:Int)+(m:Int)*1).toNat]?).toArray=((xs.toList.drop i).take k).toArray:=by
 have e:(λ(m:Nat)=>xs[((i:Int)+(m:Int)*1).toNat]?)=λm=>xs[i+m]?:=by
  funext m;have:((i:Int)+(m:Int)*1).toNat=i+m:=⋯
  rw[this]
 rw[e];have:=pick_run xs i k;rw[List.filterMap_map]at this;have a:(Function.comp (λx=>xs[x]?) λx=>i+x)=λm=>xs[i+m]?:=rfl
 rw[a]at this;rw[this]
def kH{t g:Addr}{items:Array Value}{j k:Value}{lo hi:Nu}{Q:Nz}(b:IsTup s.heap t items)(i:s.heap.IsSliceOf g j k .none)(pl:IsPart j lo)(o:IsPart k hi)
  (hw:¬(dD items.size 0 lo=0/\dD items.size items.size hi=items.size))
  (h:Q (.ref s⁻¹) {s with heap:=s.heap.push {cls:=.type "tuple",data:=.seq ((items.toList.drop (dD items.size 0 lo)).take (dD items.size items.size hi-dD items.size 0 lo)).toArray}})
  (hsz:items.size<=sizeLine):wpAny (model prog w) A (getItem (.ref t) (.ref g)) Q E s:=by
 have a:sizeOk (.seq ((items.toList.drop (dD items.size 0 lo)).take (dD items.size items.size hi-dD items.size 0 lo)).toArray):=by
  show((items.toList.drop (dD items.size 0 lo)).take (dD items.size items.size hi-dD items.size 0 lo)).toArray.size<=sizeLine;rw[size_toArray,vi,List.length_drop,Array.length_toList];lia
 have p:dD items.size items.size hi<=items.size:=ML _ _ (vb _) hi;let⟨n,f,d,l⟩:=id i;have c:s.TypeIs (.ref g) "slice":=#[n,f,d]
 unfold getItem
 try with_reducible erw[wpAny_holding ?_]
 first | refine uh (ug ?_) | skip
 erw[uh (wpAny_sequenceKey b.typeIs nofun ?_)];refine uh (wpAny_callSpecial?_slot (name:=Str.ofString "__getitem__") b.typeIs PyProof.Rows.slot_tuple_getitem
  (wpAny_call_entry PyProof.Rows.slot_tuple_getitem b.typeIs entry_tuple_getitem ?_ (args_tuple_getitem _ _)))
 show wpAny _ _ (Builtin.Tuple.tupleItemsOf (.ref t) >>= _) _ _ s;erw[uh (tupleItemsOf_ b ?_)];erw[uh (wpAny_typeOf c ?_)];rw[vd nofun];erw[uh (K8 i pl o ?_)];have e:¬((((dD items.size 0 lo:Nat):Int)==0&&(1:Int)==1&&(dD items.size items.size hi-dD items.size 0 lo)==items.size)=true):=by
  intro q;rw[Bool.and_eq_true,Bool.and_eq_true]at q;have r:((dD items.size 0 lo:Nat):Int)=0:=eq_of_beq q.1.1;have u:dD items.size items.size hi-dD items.size 0 lo=items.size:=eq_of_beq q.2;rwa[hw #[⋯,⋯]]
 show wpAny _ _ (if(((dD items.size 0 lo:Nat):Int)==0&&(1:Int)==1&&(dD items.size items.size hi-dD items.size 0 lo)==items.size)=true then _ else _) _ _ s;rw[vc e,HQ]
 first
  | rwa[uh (m:=Builtin.Tuple.tupleExact _) (wpAny_newObj_type (ug #[_,rfl,ug h]) a)]
  | rwa[uh (m:=Builtin.Tuple.tupleExact _) (wpAny_newObj_type (uh (ug (ug #[_,rfl,ug h]))) a)]
  | rwa[uh (uh (m:=Builtin.Tuple.tupleExact _) (wpAny_newObj_type (ug (ug #[_,rfl,ug h])) a))]
  | rwa[uh (uh (m:=Builtin.Tuple.tupleExact _) (wpAny_newObj_type (ug #[_,rfl,ug h]) a))]
end
end HT
namespace L2
open PySem PySem.Spec PyProof.Rows
noncomputable abbrev TO:=St->Hp->(Option Int->Hp->Prop)->Prop
def PO(X:Cx)(e:Option Expr)(t:TO):Prop:=
 ∀(pins:Ny) (s:Shared) (σ:St) (H:Hp) (Q:Option Int->Hp->Prop),Inv X pins σ H s->t σ H Q->
  wpAny (model X.prog X.w) X.A (evalPart e X.env) (λu s'=>∃o H',Inv X pins σ H' s'/\IsPart u o/\Q o H') X.xe s
def mP:TO:=λq H Q=>Q none H
def rk(t:TE):TO:=λσ H Q=>t σ H λx H1=>∃i,x = .int i/\Q (some i) H1
def intsAre_of:∀{us:L9},Vals (ns.map V.int) us->IntsAre us ns:=by
 induction ns with
 | nil=>intro us r;rw[map_nil]at r;cases r;rwa[.nil]
 | cons n ns ih=>
  intro us r;rw[v9]at r;cases r with
  | cons r1 r2=>
   let⟨t,e⟩:=r1;subst e;rwa[.cons n t (ih r2)]
section
variable{X:Cx}{e:Expr}{te:TE}{lo hi:Option Expr}{tl th:TO}{pos p2:Pos}
def ZF:PO X none mP:=by
 intro a s b H Q I h;rw[evalPart_none];rwa[ug #[none,H,I,.none,h]]
def Q8(h:PE X e te):PO X (some e) (rk te):=by
 intro a s j H Q I d;rw[evalPart_some];erw[cC (h a s j H _ I d) λu k z_=>?_];obtain⟨x,b,c,g,f⟩:=z_
 let⟨i,rfl,q⟩:=f;let⟨t,rfl⟩:=g;rwa[some i,b,c,.int i t,q]
def uU(X:Cx)(r:V->Option Int->Option Int->Hp->VK->Prop):Prop:=
 ∀(pins:Ny) (s:Shared) (σ:St) (H:Hp) (x:V) (v vl vu:Value) (lo hi:Nu) (sl:Addr) (Q:VK),Inv X pins σ H s->RelV x v->s.heap.IsSliceOf sl vl vu .none->IsPart vl lo->IsPart vu hi->r x lo hi H Q->
  ∃T id,typeLookup (.type T) "__getitem__"= pure (some (.builtin id))/\s.TypeIs v T/\wpAny (model X.prog X.w) X.A (getItem v (.ref sl)) (EP X pins σ Q) X.xe s
def E2(r:V->Option Int->Option Int->Hp->VK->Prop)(te:TE)(tl th:TO):TE:=λσ H Q=>te σ H λx H1=>tl σ H1 λl H2=>th σ H2 λu H3=>r x l u H3 Q
def zn{r:V->Option Int->Option Int->Hp->VK->Prop}(A:uU X r)(w:PE X e te)(z:PO X lo tl)(C:PO X hi th):PE X (.Subscript e (.Slice lo hi none p2) pos) (E2 r te tl th):=by
 intro a s d H Q I h;erw[Subscript_ (cC (w a s d H _ I h) λv L z_=>?_)];obtain⟨x,j,m,K,F⟩:=z_;erw[wpAny_Slice (cC (z a L d j _ m F) λf M z_=>?_)];let⟨l,k,n,D,G⟩:=z_;erw[cC (C a M d k _ n G) λg c z_=>?_];obtain⟨u,i,o,E,J⟩:=z_;rw[evalPart_none];erw[ug ?_];have p:Inv X a d i {c with heap:=c.heap.push {cls:=.type "slice",data:=.fields [f,g,.none].toArray}}:=o.kept (t':=c.toks) λb O q=>vJ _ q
 let⟨T,N,t,B,y⟩:=A a {c with heap:=c.heap.push {cls:=.type "slice",data:=.fields [f,g,.none].toArray}} d i x v f g l u c⁻¹ Q p K (Heap.IsSliceOf.new ..) D E J;show wpAny (model X.prog X.w) X.A (subscriptTail e (.Slice lo hi none p2) v (.ref c⁻¹)) (EP X a d Q) X.xe {c with heap:=c.heap.push {cls:=.type "slice",data:=.fields [f,g,.none].toArray}};rwa[tail_any (ops:=[.ref c⁻¹,v]) B t y (by with_unfolding_all rfl)]
noncomputable def gQ(xs:N2)(lo hi:Nu):N2:=(xs.drop (HT.dD ⇑xs 0 lo)).take (HT.dD ⇑xs ⇑xs hi-HT.dD ⇑xs 0 lo)
def ZA(xs:N2)(lo hi:Nu):⇑(gQ xs lo hi)<=⇑xs:=by
 unfold gQ;rw[vi,List.length_drop];lia
noncomputable def BR(K:cp):V->Option Int->Option Int->Hp->VK->Prop:=λx lo hi H Q=>∃a xs,x = .ref a/\cw K H a xs/\
 ¬(HT.dD ⇑xs 0 lo=0/\HT.dD ⇑xs ⇑xs hi=⇑xs)/\∀p,H p=none->Q (.ref p) (upd H p (.tup (gQ xs lo hi)))
def EA:uU X (BR X.K):=by
 intro k s B H x v z A e f y Q I u l p t h;let⟨a,d,rfl,n,m,q⟩:=h;cases u;let⟨g,r,i,j⟩:=I.tuple n;have c:g.toArray.size=⇑d:=by rw[size_toArray];rwa[r.length.symm]
 erw["tuple",_,PyProof.Rows.slot_tuple_getitem.lookup,i.typeIs,?_];erw[HT.kH i l p t (by rw[c];rwa[m]) ?_ (by rw[c];rwa[j])];rw[c];erw[.ref s⁻¹,_,I.laid (t':=s.toks) (o:=.tup (gQ d e f)) (λb w q=>vJ _ q) (vb _) ?_,rfl,q _ (I.cv.fresh (vb _))];rwa[vW (ZA d e f) j,_,(r.drop (HT.dD ⇑d 0 e)).take (HT.dD ⇑d ⇑d f-HT.dD ⇑d 0 e),IsTup.new _ _]
def tX(K:cp):R2:=λx y H Q=>∃a b xs ys,x = .ref a/\y = .ref b/\cw K H a xs/\cw K H b ys/\xs≠[]/\⇑xs+⇑ys<=sizeLine/\
 (ys=[]->Q (.ref a) H)/\(ys≠[]->∀p,H p=none->Q (.ref p) (upd H p (.tup (xs++ys))))
def Vals.lD{xs:N2}{us:L9}(r:Vals xs us):us=[]↔xs=[]:=by
 cases r with
 | nil=>simp
 | cons _ _=>simp
def LR:fH X (binaryOp .Add) (tX X.K):=by
 intro f s E H x y v u Q I t A h;let⟨a,b,B,C,rfl,rfl,g,i,j,k,p,r⟩:=h;cases t;cases A;let⟨l,d,m,Z⟩:=I.tuple g;let⟨e,c,n,Z⟩:=I.tuple i;erw[HT.IE m n (λz=>j (d.lD.mp z)) (λz=>#[.ref a,H,I,rfl,p (c.lD.mp z)]) (λz=>?_) (by rw[<-⇑d,<-⇑c];rwa[k])];erw[.ref s⁻¹,_,I.laid (t':=s.toks) (o:=.tup (B++C)) (λb D q=>vJ _ q) (vb _) ?_,rfl,r (λw=>z (c.lD.mpr w)) _ (I.cv.fresh (vb _))];rwa[by simp_all,_,d.append c,IsTup.new _ _]
end
noncomputable def lS(n:Nat)(i:Int):Option Nat:=if 0<=i then(if i<n then some i.toNat else none)else if -(n:Int)<=i then some (i+n).toNat else none
noncomputable def eZ{α:Type}(xs:List α)(i:Int):Option α:=(lS ⇑xs i).bind λj=>xs[j]?
def Dk(h:lS n i⊂j):seqIndex? i n⊂j/\j<n/\-(n:Int)<=i/\i<n:=by
 unfold lS at h;by_cases b:0<=i
 .rw[vd b]at h;by_cases a:i<n
  .rw[vd a]at h;have e:i.toNat=j:=vL h;rwa[by rw[seqIndex_of b a,e],⋯,⋯,a]
  .rw[vc a]at h;cases h
 .rw[vc b]at h;by_cases a : -(n:Int)<=i
  .rw[vd a]at h;have e:(i+n).toNat=j:=vL h;rwa[by rw[seqIndex_neg ⋯ a,e],⋯,a,⋯]
  .rw[vc a]at h;cases h
def Xw{a:Type}{xs:List a}{i:Int}{v:a}(h:eZ xs i⊂v):∃j,seqIndex? i ⇑xs⊂j/\xs[j]?⊂v/\j<⇑xs/\-(⇑xs:Int)<=i/\i<⇑xs:=by
 unfold eZ at h;cases e:lS ⇑xs i with
 | none=>rw[e]at h;cases h
 | some j=>
  rw[e]at h;let⟨b,c,d,f⟩:=Dk e;rwa[j,b,h,c,d,f]
def jS{a:Type}{xs:List a}{j:Nat}{v:a}(h:xs[j]?⊂v):eZ xs (j:Int)⊂v:=by
 have b:j<⇑xs:=(vx.mp h).1;have e:lS ⇑xs (j:Int)⊂j:=by
  unfold lS
  simp_all
 unfold eZ;rw[e];rwa[h]
def Cu{a:Type}(xs:List a)(v:a):eZ (xs++[v]) (-1)⊂v:=by
 have b:⇑(xs++[v])=⇑xs+1:=by simp
 have e:lS ⇑(xs++[v]) (-1)=some ⇑xs:=by
  unfold lS;rw[b,vc nofun,vd ⋯];congr 1;lia
 unfold eZ
 simp_all
def oP(b:Expr):Prop:=∀o i,subscripted b false o i=operate [o,i] (getItem o i)
def rC(X:Cx)(r:R2):Prop:=
 ∀(value slice:Expr) (pins:Ny) (s:Shared) (σ:St) (H:Hp) (x y:V) (v u:Value) (Q:VK),Inv X pins σ H s->RelV x v->RelV y u->r x y H Q->
  subscripted slice false v u=operate [v,u] (getItem v u)->wpAny (model X.prog X.w) X.A (subscriptTail value slice v u) (EP X pins σ Q) X.xe s
def sT(X:Cx)(id:String)(r:V->N2->Hp->VK->Prop):Prop:=
 ∀(pins:Ny) (s:Shared) (σ:St) (H:Hp) (x:V) (xs:N2) (v:Value) (us:L9) (Q:VK),Inv X pins σ H s->RelV x v->Vals xs us->r x xs H Q->
  wpAny (model X.prog X.w) X.A (call (.builtin id) (v::us)) (EP X pins σ Q) X.xe s
section
variable{X:Cx}{a b:Expr}{ta tb:TE}{pos:Pos}
def ji(i:rC X r)(f:PE X a ta)(g:PE X b tb)(j:oP b:=by rwa[λZ Z=>rfl]):PE X (.Subscript a b pos) (uG r ta tb):=by
 intro c s n H Q I h;rwa[Subscript_ (rN f g I h λv u m x y d e k l q=>i a b c m n d x y v u Q e k l q (j _ _))]
def oi(K:cp):R2:=λx y H Q=>∃p xs i v,x = .ref p/\y = .int i/\bV K H p xs/\eZ xs i⊂v/\Q v H
def ph(K:cp):R2:=λx y H Q=>∃p xs i v,x = .ref p/\y = .int i/\cw K H p xs/\eZ xs i⊂v/\Q v H
def BN:R2:=λx y H Q=>∃z i c,x = .str z/\y = .int i/\⇑z<=sizeLine/\eZ z.cps.toList i⊂c/\Q (.str ⟨#[c]⟩) H
def jv:rC X (oi X.K):=by
 intro l k a s A H x y v u Q I J K h o;let⟨p,P,i,z,rfl,rfl,G,E,q⟩:=h;cases J;let⟨t,rfl⟩:=K;let⟨e,r,f,O⟩:=I.list G;let⟨j,c,B,M,C,D⟩:=Xw E;let⟨w,m,g⟩:=r.get B;have F:=⇑r;have N:=gV;have b:EP X a A Q w s:=#[z,H,I,g,q]
 by_cases n:0<=i
 .have d:i.toNat=j:=by
   rw[seqIndex_of n D]at c;rwa[vL c]
  rwa[item_listR f.isList n ⋯ (by rw[d];simpa using m) b o]
 .have d:(i+(e.toArray.size:Int)).toNat=j:=by
   rw[seqIndex_neg ⋯ C]at c;rw[size_toArray,<-F];rwa[vL c]
  exact subscriptTail_builtinR (x:=w) f.isList.typeIs slot_list_getitem.lookup
   (wpAny_getItem_list_neg (Q:=λr L=>r=w/\EP X a A Q r L) f.isList ⋯ (by rw[size_toArray]<;>lia) ⋯ (by rw[d];simpa using m) #[rfl,b]) o
def jp:rC X (ph X.K):=by
 intro e d a s g H x y v u Q I B C h o;let⟨p,N,i,z,rfl,rfl,n,m,q⟩:=h;cases B;let⟨t,rfl⟩:=C;let⟨A,r,f,M⟩:=I.tuple n;let⟨j,E,l,F,G,J⟩:=Xw m;let⟨w,k,c⟩:=r.get l;have K:=⇑r;have L:=gV;have b:EP X a g Q w s:=#[z,H,I,c,q]
 exact subscriptTail_builtinR (x:=w) f.typeIs slot_tuple_getitem.lookup
  (getItem_tuple (j:=j) (Q:=λr D=>r=w/\EP X a g Q r D) f ⋯ ⋯ (by simp_all) #v[k] #[rfl,b]) o
def XR:rC X BN:=by
 intro b a e s E H x y v u Q I r w h p;let⟨z,i,c,rfl,rfl,C,n,q⟩:=h;let⟨t,rfl⟩:=r;let⟨D,rfl⟩:=w;let⟨j,d,k,A,l,m⟩:=Xw n;have o:⇑z.cps.toList=⇑z:=by simp[Str.length]
 rw[o]at d l m;have B:=gV;exact tail_any (typeIs_str s z t) slot_str_getitem.lookup (getItem_str (c:=c) (by
  have f:decide (i < -(2^63:Int))=false:=vH ⋯;have g:decide (i>=2^63)=false:=vH ⋯;rw[f,g,Bool.or_false]) (by rw[d];simpa using k) #[.str ⟨#[c]⟩,H,I.tok _,#[_,rfl],q]) p
def FH(a:L9)(n j:Nat)(u:Value):Obj.mapSeq (·.setIfInBounds j u) {cls:=.type "list",data:=.seq a.toArray n}={cls:=.type "list",data:=.seq (a.set j u).toArray n}:=by
 simp[Obj.mapSeq]
def Inv.lst{b:St}{H:Hp}(I:Inv X pins b H s)(h:H p⊂.lst xs) :
  ∃(a:L9) (n:Nat),Vals xs a/\s.heap.get? p=some {cls:=.type "list",data:=.seq a.toArray n}/\⇑xs<=sizeLine:=by
 let⟨z,a,n,r,e⟩:=I.cv p _ h;rwa[a,n,r,e,z]
def Inv.rW{a:Ny}{i:St}{H:Hp}{s:Shared}{p:Addr}{xs ys:N2}{c its':L9}{n d:Nat}{f:Obj->Obj}(I:Inv X a i H s)(h:H p⊂.lst xs)
  (k:s.heap.get? p=some {cls:=.type "list",data:=.seq c.toArray n}) (g:f {cls:=.type "list",data:=.seq c.toArray n}={cls:=.type "list",data:=.seq its'.toArray d}) (r:Vals ys its') (hz:⇑ys<=sizeLine) (t:Nat) :
  Inv X a i (upd H p (.lst ys)) {s with heap:=s.heap.update p f,toks:=t}:=by
 have e:(s.heap.update p f).get? p=some {cls:=.type "list",data:=.seq its'.toArray d}:=by
  rw[Heap.get?_update_self f k (by rw[g]<;>rfl),g]
 erw[I.write (x:=p) (e:=p) (by rw[h];trivial) (.inl rfl) (λb u j q=>(Heap.get?_update_other _ _ (Ne.symm j)).trans q) #[_,e] ?_];rwa[hz,its',d,r,e]
noncomputable def tZ:V->V->V->Hp->(Hp->Prop)->Prop:=λo i v H Q=>∃p xs k j,o = .ref p/\i = .int k/\H p⊂.lst xs/\lS ⇑xs k⊂j/\Q (upd H p (.lst (xs.set j v)))
def set_list:rJ X tZ:=by
 intro b s E H o i v ov J u Q I B A C h;let⟨p,D,k,j,rfl,rfl,l,x,q⟩:=h;cases B;let⟨t,rfl⟩:=A;let⟨a,n,r,e,z⟩:=I.lst l;let⟨c,F,m,w⟩:=Dk x;have y:=⇑r;have G:=gV;have f:Inv X b E (upd H p (.lst (D.set j v))) {s with heap:=s.heap.update p (Obj.mapSeq (·.setIfInBounds j u))}:=
  I.rW l e (FH a n j u) (r.set C j) (by rw[length_set];rwa[z]) s.toks
 by_cases g:0<=k
 .have d:k.toNat=j:=by
   rw[seqIndex_of g w]at c;rwa[vL c]
  rwa[PySem.W.ki_setAt e g ⋯ (by simp_all) (by rw[d];rwa[_,f,q])]
 .have d:(k+(a.toArray.size:Int)).toNat=j:=by
   rw[seqIndex_neg ⋯ m]at c;rw[size_toArray,<-y];rwa[vL c]
  rwa[PySem.W.ki_setBack e ⋯ (by simp_all) ⋯ (by rw[d];rwa[_,f,q])]
def Fo(lo hi:Nu)(n:Nat):(sliceBounds lo hi none n).1=((HT.dD n 0 lo:Nat):Int)/\(sliceBounds lo hi none n).2.1=((HT.dD n n hi:Nat):Int)/\(sliceBounds lo hi none n).2.2=1:=by
 erw[?_,?_,rfl]
 .cases lo with
  | none=>simp[sliceBounds,HT.dD]
  | some i=>
   simp only[sliceBounds,HT.dD,Option.getD_none,show(1:Int)>0 by decide,if_true];by_cases h:i<0
   .simp only[h,if_true]<;>lia
   .simp only[h,if_false]<;>lia
 .cases hi with
  | none=>simp[sliceBounds,HT.dD]
  | some i=>
   simp only[sliceBounds,HT.dD,Option.getD_none,show(1:Int)>0 by decide,if_true];by_cases h:i<0
   .simp only[h,if_true]<;>lia
   .simp only[h,if_false]<;>lia
def xh(a:L9)(lo hi:Nu):slicePick a.toArray lo hi none=((a.drop (HT.dD ⇑a 0 lo)).take (HT.dD ⇑a ⇑a hi-HT.dD ⇑a 0 lo)).toArray:=by
 let⟨b,c,d⟩:=Fo lo hi a.toArray.size;unfold slicePick;rw[b,c,d];simp only[sliceRange_one,pick_run,size_toArray]<;>rfl
noncomputable def BQ(K:cp):V->Option Int->Option Int->Hp->VK->Prop:=λx lo hi H Q=>∃a xs,x = .ref a/\bV K H a xs/\∀p,H p=none->Q (.ref p) (upd H p (.lst (gQ xs lo hi)))
def wV:uU X (BQ X.K):=by
 intro i s A H x v y z e f w Q I t j n p h;let⟨a,c,rfl,k,q⟩:=h;cases t;let⟨m,r,g,l⟩:=I.list k;have d:=⇑r;erw["list",_,slot_list_getitem.lookup,g.isList.typeIs,?_];erw[wpAny_getItem_list_slice g.isList j n p .none (by simp) ?_ (by simp_all)];rw[xh,<-d];erw[.ref s⁻¹,_,I.laid (t':=s.toks) (o:=.lst (gQ c e f)) (λb u q=>vJ _ q) (vb _) ?_,rfl,q _ (I.cv.fresh (vb _))];rwa[vW (ZA c e f) l,_,0,(r.drop (HT.dD ⇑c 0 e)).take (HT.dD ⇑c ⇑c f-HT.dD ⇑c 0 e),Heap.get?_push_size _ rfl]
noncomputable def eJ:V->Bool
 | .cV=>true
 | .bl _=>true
 | .int _=>true
 | .str _=>true
 | _=>false
noncomputable def mK:V->V->Bool
 | .cV,.cV=>true
 | .bl a,.bl b=>a==b
 | .bl a,.int b=>(if a then 1 else 0)==b
 | .int a,.bl b=>a==(if b then 1 else 0)
 | .int a,.int b=>a==b
 | .str a,.str b=>a==b
 | _,_=>false
def My(f:RelV y u)(c:RelV x v)(g:eJ y=true)(e:eJ x=true):SeqAt.EqAt A s u v (mK y x):=by
 cases y with
 | cV=>
  cases f;cases x with
  | cV=>cases c;rwa[SeqAt.EqAt.same _]
  | bl b=>cases c;rwa[SeqAt.EqAt.none_bool b]
  | int b=>let⟨t,rfl⟩:=c;rwa[SeqAt.EqAt.none_int b t]
  | str b=>let⟨t,rfl⟩:=c;rwa[SeqAt.EqAt.none_str b t]
  | _=>rwa[uf (show false=true from e) vF]
 | bl a=>
  cases f;cases x with
  | cV=>cases c;rwa[SeqAt.EqAt.bool_none a]
  | bl b=>cases c;rwa[SeqAt.EqAt.bool_bool a b]
  | int b=>let⟨t,rfl⟩:=c;rwa[SeqAt.EqAt.bool_int a b t]
  | str b=>let⟨t,rfl⟩:=c;rwa[SeqAt.EqAt.bool_str a b t]
  | _=>rwa[uf (show false=true from e) vF]
 | int a=>
  let⟨d,rfl⟩:=f;cases x with
  | cV=>cases c;rwa[SeqAt.EqAt.int_none a d]
  | bl b=>cases c;rwa[SeqAt.EqAt.int_bool a d b]
  | int b=>let⟨t,rfl⟩:=c;rwa[SeqAt.EqAt.int_int a d b t]
  | str b=>let⟨t,rfl⟩:=c;rwa[SeqAt.EqAt.int_str a d b t]
  | _=>rwa[uf (show false=true from e) vF]
 | str a=>
  let⟨d,rfl⟩:=f;cases x with
  | cV=>cases c;rwa[SeqAt.EqAt.str_none a d]
  | bl b=>cases c;rwa[SeqAt.EqAt.str_bool a d b]
  | int b=>let⟨t,rfl⟩:=c;rwa[SeqAt.EqAt.str_int a d b t]
  | str b=>let⟨t,rfl⟩:=c;rwa[SeqAt.EqAt.str_str a d b t]
  | _=>rwa[uf (show false=true from e) vF]
 | _=>rwa[uf (show false=true from g) vF]
noncomputable def l6(x:V)(u:Value):Bool:=match u with
 | .none=>mK .cV x
 | .bool b=>mK (.bl b) x
 | .int i _=>mK (.int i) x
 | .str z _=>mK (.str z) x
 | _=>false
def XM(r:RelV y u)(f:eJ y=true):l6 x u=mK y x:=by
 cases y with
 | cV=>cases r;rfl
 | bl b=>cases r;rfl
 | int i=>let⟨t,rfl⟩:=r;rfl
 | str z=>let⟨t,rfl⟩:=r;rfl
 | _=>rwa[uf (show false=true from f) vF]
theorem kx:∀{xs:N2} {us:L9},Vals xs us->xs.all eJ=true->us.any (l6 x)=xs.any λy=>mK y x
 | _,_,.nil,_=>rfl
 | y::xs,u::us,.cons r t,f=>by
  rw[all_cons,Bool.and_eq_true]at f;rw[any_cons,any_cons,XM r f.1,kx t f.2]
theorem Z4(c:RelV x v)(b:eJ x=true):∀{xs:N2} {us:L9},Vals xs us->xs.all eJ=true->∀u∈us,SeqAt.EqAt A s u v (l6 x u)
 | _,_,.nil,_=>λu a=>by cases a
 | y::xs,u::us,.cons r t,f=>λd a=>by
  rw[all_cons,Bool.and_eq_true]at f;rcases mem_cons.mp a with rfl | a
  .rw[XM r f.1];rwa[My r c f.1 b]
  .exact Z4 c b t f.2 d a
noncomputable def nZ(x:V)(xs:N2):Bool:=xs.any λy=>mK y x
def BM(K:cp)(neg:Bool):R2:=λx y H Q=>∃p xs,y = .ref p/\(bV K H p xs\/cw K H p xs)/\eJ x=true/\xs.all eJ=true/\Q (.bl (if neg then !nZ x xs else nZ x xs)) H
def KY:fH X (compareOp .In) (BM X.K false):=by
 intro g s m H x y v u Q I i k h;let⟨p,l,rfl,b,f,c,q⟩:=h;cases k;rcases b with b | b
 .let⟨a,r,e,j⟩:=I.list b;erw[SeqAt.in_listAt (l6 x) e.isList (λw d=>Z4 i f r c w #v[d]) #[.bl _,H,I,rfl,?_]];rw[show a.toArray.any (l6 x)=a.any (l6 x) by simp,kx r c];rwa[q]
 .let⟨a,r,e,j⟩:=I.tuple b;erw[SeqAt.in_tupleAt (l6 x) e (λw d=>Z4 i f r c w #v[d]) #[.bl _,H,I,rfl,?_]];rw[show a.toArray.any (l6 x)=a.any (l6 x) by simp,kx r c];rwa[q]
def E9:fH X (compareOp .NotIn) (BM X.K true):=by
 intro g s m H x y v u Q I i k h;let⟨p,l,rfl,b,f,c,q⟩:=h;cases k;rcases b with b | b
 .let⟨a,r,e,j⟩:=I.list b;erw[SeqAt.notIn_listAt (l6 x) e.isList (λw d=>Z4 i f r c w #v[d]) #[.bl _,H,I,rfl,?_]];rw[show a.toArray.any (l6 x)=a.any (l6 x) by simp,kx r c];rwa[q]
 .let⟨a,r,e,j⟩:=I.tuple b;erw[SeqAt.notIn_tupleAt (l6 x) e (λw d=>Z4 i f r c w #v[d]) #[.bl _,H,I,rfl,?_]];rw[show a.toArray.any (l6 x)=a.any (l6 x) by simp,kx r c];rwa[q]
def qT:c8 X (.type "list") (λxs H Q=>∃p ys,xs=[.ref p]/\(bV X.K H p ys\/cw X.K H p ys)/\∀l,H l=none->Q (.ref l) (upd H l (.lst ys))):=by
 intro t s B H xs C Q I r h;let⟨p,ys,rfl,j,q⟩:=h;let⟨u,rfl,A⟩:=vals1 r;cases A;have g:∀(a:L9),Vals ys a->⇑ys<=sizeLine->∀(c:Heap) (d:Nat),(∀b z,s.heap.get? b⊂z->c.get? b⊂z)->
   c.get? s⁻¹=some {cls:=.type "list",dict:=none,data:=.seq a.toArray d,slots:=#[]}->EP X t B Q (.ref s⁻¹) {s with heap:=c}:=λa f k c d m e=>
  #[.ref s⁻¹,_,I.laid (t':=s.toks) m (vb _) (show cm X.prog X.w _ c _ (.lst ys)from#[k,a,d,f,e]),rfl,q _ (I.cv.fresh (vb _))]
 rcases j with j | j
 .let⟨a,f,y,k⟩:=I.list j;have i:=⇑f;let⟨o,x,v,n,w⟩:=y.isList;rwa[call_list_seq p (.inl rfl) x v w (λc d m e=>g a f k c d m e) (by simp_all)]
 .let⟨a,f,y,k⟩:=I.tuple j;have i:=⇑f;let⟨o,x,v,n,w⟩:=y;rwa[call_list_seq p (.inr rfl) x v w (λc d m e=>g a f k c d m e) (by simp_all)]
def qr:c8 X (.type "tuple") (λxs H Q=>∃p ys,xs=[.ref p]/\((bV X.K H p ys/\∀l,H l=none->Q (.ref l) (upd H l (.tup ys)))\/(cw X.K H p ys/\Q (.ref p) H))):=by
 intro a s n H xs x Q I r h;let⟨p,ys,rfl,h⟩:=h;let⟨u,rfl,w⟩:=vals1 r;cases w;rcases h with⟨f,q⟩ | ⟨f,q⟩
 .let⟨c,i,g,m⟩:=I.list f;have k:=⇑i;erw[call_tuple_list g.isList (λd v=>?_) (by simp_all)];have j:Inv X a n H {s with heap:=d}:=I.kept (t':=s.toks) v;have t:Inv X a n (upd H d.objs.size (.tup ys)) {s with heap:=d.push {cls:=.type "tuple",data:=.seq c.toArray}}:=
   j.laid (t':=s.toks) (λb o e=>vJ _ e) (vb _) (show cm X.prog X.w _ _ _ (.tup ys)from#[m,c,i,IsTup.new _ _])
  rwa[.ref d.objs.size,_,t,rfl,q _ (j.cv.fresh (vb _))]
 .let⟨c,i,g,m⟩:=I.tuple f;rwa[call_tuple_same g #[.ref p,H,I,rfl,q]]
def uP(K:cp)(T:String)(x:V)(H:Hp):Prop:=match x with
 | .str _=>T = "str"
 | .int _=>T = "int"
 | .ref p=>(T = "list"/\∃xs,bV K H p xs)\/(T = "tuple"/\∃o,K.lookup p⊂o/\o.cls = .type "tuple"/\o.dict=none)\/
   (T = "dict"/\((∃kvs,H p⊂.dK kvs)\/∃kvs,H p⊂.dT kvs))\/(T = "set"/\∃S n,H p⊂.set S n)
 | _=>False
def EG{w:St}{H:Hp}(I:Inv X pins w H s)(r:RelV x v)(f:uP X.K T x H) :
  s.TypeIs v T/\∀a,v = .ref a->∃k,s.heap.get? a⊂k/\k.dict=none:=by
 cases x with
 | str z=>
  let⟨t,rfl⟩:=r;cases(show T = "str" from f);rwa[typeIs_str s z t,λZ e=>nomatch e]
 | int i=>
  let⟨t,rfl⟩:=r;cases(show T = "int" from f);rwa[typeIs_int s i t,λZ e=>nomatch e]
 | ref p=>
  cases r;rcases f with⟨rfl,y,q⟩ | ⟨rfl,o,b,m,h⟩ | ⟨rfl,b⟩ | ⟨rfl,S,n,b⟩
  .let⟨u,_,l,_⟩:=I.list q;erw[l.isList.typeIs,λa e=>?_];cases e;let⟨o,n,e,c,h,Z⟩:=l;rwa[o,e,h]
  .refine#[#[o,I.fT p o b,m],λa e=>?_];cases e;rwa[o,I.fT _ o b,h]
  .have z:∃o,s.heap.get? p⊂o/\o.ExactDict:=by
    rcases b with⟨j,b⟩ | ⟨j,b⟩
    .let⟨_,_,_,_,o,_,_,e,d,_⟩:=I.cv p _ b;rwa[o,e,d]
    .let⟨_,_,_,_,o,_,_,e,d,_⟩:=I.cv p _ b;rwa[o,e,d]
   let⟨o,e,d⟩:=z;erw[#[o,e,d.1],λa g=>?_];cases g;rwa[o,e,d.2.1]
  .let⟨o,_,_,_,e,d,_⟩:=I.cv p _ b;erw[#[o,e,d.1],λa g=>?_];cases g;rwa[o,e,d.2.1]
 | _=>rwa[False.elim f]
def uy(K:cp)(T:String)(r:V->N2->Hp->VK->Prop)(to:TE):TE:=λσ H Q=>to σ H λx H1=>uP K T x H1/\r x [] H1 Q
def EX(K:cp)(T:String)(r:V->N2->Hp->VK->Prop)(to:TE)(t:TA):TE:=λσ H Q=>to σ H λx H1=>uP K T x H1/\t σ H1 λxs H2=>r x xs H2 Q
variable{o e:Expr}{es:Nt}{to:TE}{t:TA}{name:Str}{apos cpos:Pos}{T id:String}{r:V->N2->Hp->VK->Prop}
def Ec(p:PlainAttrs T)(d:Slot T name id)(e:typeOf (.builtin id)=pure (.type "method_descriptor"))(m:sT X id r)(n:PE X o to)
  (b:attributeBase o name X.env (eval o X.env)=eval o X.env:=by rfl) (c:(apos.endLine==cpos.line)=true:=by rfl):PE X (.Call (.Attribute o name apos) [] [] cpos) (uy X.K T r to):=by
 intro a s i H Q I h;erw[wpAny_Call_method0_late b c (cC (n a s i H _ I h) λv t z_=>?_)];obtain⟨x,j,f,g,u,q⟩:=z_;let⟨k,l⟩:=EG f g u;rwa[T,id,p,d,e,k,l,Calls.callWith_builtin rfl (PySem.evalArgs_none (m a t i j x [] v [] Q f g .nil q))]
def JI(C:PlainAttrs T)(g:Slot T name id)(i:typeOf (.builtin id)=pure (.type "method_descriptor"))(z:sT X id r)(A:PE X o to)(y:PA X (e::es) t)
  (c:attributeBase o name X.env (eval o X.env)=eval o X.env:=by rfl)
  (f:((backTo cpos (starEach (e::es) X.env)).all (λx=>!x.1)&&(backToKw cpos (keywordEach [] X.env)).all (λx=>x.1.isSome)
   && decide (⇑(e::es)+⇑([]:List Keyword)+(if([]:List Keyword).isEmpty then 0 else 1)<30))=true:=by rfl)
  (d:(apos.endLine==cpos.line)=true:=by rfl) (B:starEach (e::es) X.env=(false,eval e X.env)::starEach es X.env:=by rfl) (b:(backTo cpos (starEach es X.env)).any (·.1)=false:=by rfl) :
  PE X (.Call (.Attribute o name apos) (e::es) [] cpos) (EX X.K T r to t):=by
 intro a s j H Q I h;erw[wpAny_Call_method_late c f d rfl (cC (A a s j H _ I h) λv G z_=>?_)];obtain⟨x,n,k,m,K,D⟩:=z_;let⟨u,w⟩:=EG k m K;erw[T,id,C,g,i,u,w,?_];have l:=y cpos a G j n _ k D;rw[B]at l|-;erw[Calls.callWith_builtin (by show(false||(backTo cpos (starEach es X.env)).any (·.1))=false;rw[b]<;>rfl) (Calls.evalArgs_plain ?_)];erw[cC l λL J z_=>?_];let⟨M,p,q,F,E⟩:=z_;rwa[z a J j p x M v L Q q m F E]
end
def Aa(X:Cx)(id:String)(r:V->N2->Hp->VK->Prop):Prop:=
 ∀(pins:Ny) (s:Shared) (σ:St) (H:Hp) (x:V) (xs:N2) (v:Value) (us:L9) (Q:VK),Inv X pins σ H s->RelV x v->Vals xs us->r x xs H Q->
  wpAny (model X.prog X.w) X.A (call (.builtin id) (v::us)) (EP X pins σ Q) X.xe s
def Vals.one:∀{x:V} {us:L9},Vals [x] us->∃u,us=[u]/\RelV x u:=by
 intro x us h;cases h with
 | cons r t=>
  cases t;rwa[_,rfl,r]
def Vals.zero:∀{us:L9},Vals [] us->us=[]
 | _,.nil=>rfl
def Vals.dropLast{xs:N2}{us:L9}(h:Vals xs us):Vals xs.dropLast us.dropLast:=by
 induction h with
 | nil=>rwa[.nil]
 | cons r t ih=>
  cases t with
  | nil=>rwa[.nil]
  | cons q t'=>rwa[.cons r ih]
theorem Vals.rep(h:Vals xs us):∀k:Nat,Vals (List.replicate k xs).flatten (List.replicate k us).flatten
 | 0=>.nil
 | k+1=>by
  rw[replicate_succ,replicate_succ,flatten_cons,flatten_cons];rwa[Vals.append h (Vals.rep h k)]
def Oz{a:Type}(l:List a):l.eraseIdx (⇑l-1)=l.dropLast:=by
 simp_all
theorem xN(a:L9):∀(k:Nat) (acc:L9),
  List.foldl (λc d=>c++d) acc.toArray (List.replicate k a.toArray)=(acc++(List.replicate k a).flatten).toArray
 | 0,acc=>by simp
 | k+1,acc=>by
  have e:acc.toArray++a.toArray=(acc++a).toArray:=by simp
  have b:(acc++a)++(List.replicate k a).flatten=acc++(List.replicate (k+1) a).flatten:=by
   rw[replicate_succ,flatten_cons,List.append_assoc]
  rw[<-b,<-xN a k (acc++a),<-e,replicate_succ,v7]
section
variable{X:Cx}{pins:Ny}{σ:St}{H:Hp}{s:Shared}{l b:Addr}{xs ys zs:N2}
def Inv.rV{a its':L9}{n:Nat}{f:Array Value->Array Value}{t':Nat}(I:Inv X pins σ H s)(b:H l⊂.lst xs)
  (e:s.heap.get? l=some {cls:=.type "list",data:=.seq a.toArray n}) (d:f a.toArray=its'.toArray) (h:Vals ys its') (hz:⇑ys<=sizeLine) :
  Inv X pins σ (upd H l (.lst ys)) {s with heap:=s.heap.update l (Obj.mapSeq f),toks:=t'}:=by
 have q:=PySem.IsL.update e f;rw[d]at q;erw[I.write (x:=l) (e:=l) (by rw[b];rwa[trivial]) (.inl rfl) (λi u c g=>(Heap.get?_update_other s.heap (Obj.mapSeq f) (Ne.symm c)).trans g) #[_,q] ?_];rwa[hz,its',_,h,q]
def Inv.tQ(I:Inv X pins σ H s)(a:Vals ys its)(hz:⇑ys<=sizeLine) :
  Inv X pins σ (upd H s⁻¹ (.lst ys)) {s with heap:=s.heap.push {cls:=.type "list",data:=.seq its.toArray},toks:=t'}:=
 I.laid (λj j q=>vJ _ q) (vb _) #[hz,its,0,a,Heap.get?_push_size _ rfl]
def Inv.fresh(I:Inv X pins σ H s):H s⁻¹=none:=I.cv.fresh (vb _)
def Inv.lC(I:Inv X pins σ H s)(b:H l⊂.lst xs):⇑xs<=sizeLine/\∃(a:L9) (n:Nat),Vals xs a/\⇑xs=⇑a/\s.heap.get? l=some {cls:=.type "list",data:=.seq a.toArray n}:=by
 let⟨z,a,n,r,e⟩:=I.cv l _ b;rwa[z,a,n,r,⇑r,e]
def lT(h:n<=sizeLine):Builtin.List.listTooLong n=false:=by
 unfold Builtin.List.listTooLong;rwa[vH ⋯]
end
section
variable{X:Cx}
noncomputable def oZ:V->N2->Hp->VK->Prop:=λx vs H Q=>∃l xs y,x = .ref l/\vs=[y]/\H l⊂.lst xs/\⇑xs<sizeLine/\Q .cV (upd H l (.lst (xs++[y])))
def jM:Aa X "list.append" oZ:=by
 intro c s p H x m v k Q I g f h;let⟨l,o,y,rfl,rfl,b,j,q⟩:=h;cases g;let⟨u,rfl,d⟩:=f.one;let⟨z,a,n,r,i,e⟩:=I.lC b;erw[call_meets F.slot_list_append #[_,e,rfl] F.entry_list_append (F.args_list_append_2 _ _) (PySem.list_append l a.toArray n u (by rw[size_toArray];lia)) #[e,?_]];erw[.cV,_,I.rV (its':=a++[u]) b e (by simp) (r.append (.cons d .nil)) ?_,rfl,q];rw[vn,vS];lia
noncomputable def pd:V->N2->Hp->VK->Prop:=λx vs H Q=>∃l b xs zs,x = .ref l/\vs=[.ref b]/\H l⊂.lst xs/\H b⊂.lst zs/\⇑xs+⇑zs<=sizeLine/\Q .cV (upd H l (.lst (xs++zs)))
def Gw:Aa X "list.extend" pd:=by
 intro i s J H x C v B Q I w t h;let⟨l,b,D,G,rfl,rfl,g,hB,A,q⟩:=h;cases w;let⟨u,rfl,p⟩:=t.one;cases p;let⟨z,c,n,r,y,e⟩:=I.lC g;let⟨E,a,m,o,k,j⟩:=I.lC hB;have f:c.toArray.size+a.toArray.size<=sizeLine:=by simp_all
 have d:¬(!c.toArray.isEmpty&&Builtin.List.listTooLong (c.toArray.size+a.toArray.size))=true:=by
  rw[lT f,Bool.and_false];rwa[vF]
 refine call_meets F.slot_list_extend #[_,e,rfl] F.entry_list_extend (F.args_list_extend_2 _ _)
  (AutoSeq1.list_extend_list_list_0 l c.toArray n b a.toArray m d (by rw[size_toArray];lia) ⋯) #[e,j,?_]
 erw[.cV,_,I.rV (its':=c++a) g e (by simp) (r.append o) ?_,rfl,q];rw[vn];lia
noncomputable def BO:V->N2->Hp->VK->Prop:=λx vs H Q=>∃l xs y,x = .ref l/\vs=[]/\H l⊂.lst xs/\xs[⇑xs-1]?⊂y/\Q y (upd H l (.lst xs.dropLast))
def Ni:Aa X "list.pop" BO:=by
 intro f s A H x t v p Q I k j h;let⟨l,w,y,rfl,rfl,d,g,q⟩:=h;cases k;have b:=j.zero;subst b;let⟨z,a,n,r,m,e⟩:=I.lC d;let⟨u,o,i⟩:=r.get g;have c:a.toArray[a.toArray.size-1]?⊂u:=by
  simp_all
 erw[call_meets F.slot_list_pop #[_,e,rfl] F.entry_list_pop (F.args_list_pop_1 _) (MeetsSeq.list_pop_last l a.toArray n u c (by rw[size_toArray];lia)) #[e,?_]];erw[y,_,I.rV (its':=a.dropLast) d e ?_ r.dropLast ?_,i,q]
 .simp_all
 .rw[List.length_dropLast];lia
def BK:R2:=λx y H Q=>∃l b xs zs,x = .ref l/\y = .ref b/\H l⊂.lst xs/\H b⊂.lst zs/\⇑xs+⇑zs<=sizeLine/\∀p,H p=none->Q (.ref p) (upd H p (.lst (xs++zs)))
def yr:fH X (binaryOp .Add) BK:=by
 intro d s D H x y v u Q I m o h;let⟨l,b,A,C,rfl,rfl,i,hB,t,q⟩:=h;cases m;cases o;let⟨z,c,n,r,p,e⟩:=I.lC i;let⟨B,a,w,k,j,f⟩:=I.lC hB;erw[PySem.P.add_list e f ?_ (by simp_all)];have g:c.toArray++a.toArray=(c++a).toArray:=by simp
 rw[g];rwa[.ref _,_,I.tQ (t':=s.toks) (r.append k) (by rw[vn];lia),rfl,q _ I.fresh]
def BP:R2:=λx y H Q=>∃l k xs,x = .ref l/\y = .int k/\H l⊂.lst xs/\-(2^63)<=k/\k<2^63/\⇑xs*k.toNat<=sizeLine/\
 ∀p,H p=none->Q (.ref p) (upd H p (.lst (List.replicate k.toNat xs).flatten))
def I0{a:Type}(xs:List a)(k:Nat):(List.replicate k xs).flatten.length=k*⇑xs:=by
 simp_all
def NC:fH X (binaryOp .Mult) BP:=by
 intro p s M H x y v u Q I E G h;let⟨l,k,L,rfl,rfl,C,A,B,D,q⟩:=h;cases E;let⟨t,rfl⟩:=G;let⟨z,b,n,r,K,e⟩:=I.lC C;have g:b.toArray.size*k.toNat<=sizeLine:=by simp_all
 have d:¬b.toArray.size*k.toNat>(2^63-1)/8:=by
  have:(sizeLine:Nat)<=(2^63-1)/8:=by decide
  lia
 have f:¬(!Builtin.List.listFitsIndex k)=true:=by
  rw[fitsIndex_both A B];rwa[vF]
 have c:¬Builtin.List.listTooLong (b.toArray.size*k.toNat)=true:=by
  rw[lT g];rwa[vF]
 have i:List.foldl (λj o=>j++o) #[] (List.replicate (if b.toArray.isEmpty=true then 0 else k.toNat) b.toArray)=(List.replicate k.toNat b).flatten.toArray:=by
  have w:∀m:Nat,List.foldl (λj o=>j++o) #[] (List.replicate m b.toArray)=(List.replicate m b).flatten.toArray:=λm=>by
   have:=xN b m []
   simp_all
  rw[w];cases b with
  | nil=>simp
  | cons a r'=>rw[vc (by simp)]
 refine wpAny_binaryOp_repeat_ref (T:="list") (U:="int") nofun #[_,e,rfl] (λJ=>typeIs_int J k t) noFill_list_mul F.fills_int_mul F.slot_int_rmul repeat_list F.slot_int_index.lookup
  (call_meets F.slot_int_rmul (typeIs_int s k t) F.entry_int_rmul (F.args_int_rmul_2 _ _) (int___rmul___int_list k t l b.toArray n)
   #[e,rfl,#[_,e,rfl],call_meets F.slot_list_mul #[_,e,rfl] F.entry_list_mul (F.args_list_mul_2 _ _) (AutoListH.list___mul___list_int_3 l b.toArray n k t f d c) #[e,?_]])
 rw[i];rwa[.ref _,_,I.tQ (t':=s.toks) (r.rep k.toNat) (by rw[I0,Nat.mul_comm];rwa[D]),rfl,q _ I.fresh]
end
end L2
namespace Att
open PySem PySem.W PySem.Calls PyProof.Rows
def wz:∀(c:L5) (vs:L9),WellAll P h vs (c.map WData.int)->IntsAre vs c:=by
 intro c
 induction c with
 | nil=>
  intro vs w;rw[map_nil]at w;cases w;rwa[.nil]
 | cons n c ih=>
  intro vs w;rw[v9]at w;cases w with
  | cons a b=>
   cases a;rwa[.cons _ _ (ih _ b)]
def Hm{l:OpenLaw}{n:Nat}(q:l.most⊂n){P:Params}{h:Heap}{args:List WData}{e:L9}
  (b:l.row.toRowW.claim.pre args=true) (j:WellAll P h e args) :
  ∃a vs c,e=[Value.ref a]/\args=[WData.list (c.map WData.int)]/\h.get? a=some {cls:=.type "list",data:=.seq vs.toArray}/\IntsAre vs c/\⇑c<=n:=by
 have i:WShape.hasAll [] args [.list .int]=true:=(pre_splitW b).1;have k:l.pre.holds [] {args:=args}=true:=(pre_splitW b).2;let⟨d,r,rfl,m,o⟩:=hasAllW_cons i;obtain rfl:=hasAllW_nil o;let⟨t,rfl,p⟩:=hasW_list m;let⟨c,rfl⟩:=items_int p;have f:⇑c<=n:=by
  unfold OpenLaw.pre at k;have g:(WTm.not (.lt (.lit (.int (n:Int))) (.len (.arg 0)))).holds [] {args:=[.list (c.map .int)]}=true:=by
   have g:=(holds_andW k).1;rw[q]at g;rwa[g]
  have s:=condW_of g (w_not (w_lt w_lit (w_len_list (w_arg rfl))))
  simp_all
 cases j with
 | cons w1 w2=>
  cases w2;cases w1 with
  | list ho hall=>rwa[_,_,c,rfl,rfl,ho,wz c _ hall,f]
def GU(l:OpenLaw)(args:List WData):l.row.toRowW.claim.post args (.bool true) args=true:=
 postW_of (r:=l.row.toRowW) (X:=(true==true))
  (show WShape.has [] (.bool true) .bool=true by first | rfl | decide | simp[WShape.has,WShape.arms,WShape.armsAll])
  (show(WTm.eq .res (.lit (.bool true))).value [] {args:=args,res:=some (.bool true),after:=args}⊂(.bool (true==true))from w_eq_bool (w_res rfl) w_lit) rfl
end Att
namespace L2
open PySem PySem.Spec PyProof.Rows
theorem Xo:∀{vs:L9} {a:L5},IntsAre vs a->Vals (a.map V.int) vs
 | _,_,.nil=>.nil
 | _,_,.cons n t h=>.cons #[t,rfl] (Xo h)
def rH(H:Hp):Prop:=∀b,H b=none\/∃o xs,H b⊂(.gM o (.lst xs))
def HE{P:Program}{w:World}{K:cp}{G T:Nw}{CX:nz}{k:Nat}{fa a:Addr}{X:FuncData}{x:Str}{sp:Sp}{c:Shared}{vs:L9}{I:L5}
  (W:K.In c.heap) (B:c.heap.Ns mainGlobals G) (g:c.heap.Ns builtinsNs T) (R:∀x:Str,x≠"__name__"->T x=bootBuiltins x) (y:c.heap.NoLimit) (hg:c.gens = #[])
  (O:c.heap.get? a=some {cls:=.type "list",data:=.seq vs.toArray}) (hi:IntsAre vs I) (hl:⇑I<=sizeLine) (hr:dg k callerA)
  (F:∀base:Heap,K.In base->base.Ns mainGlobals G->dP P w K G base CX k fa X [x] sp) (l:∀(s:Shared) (u:Value),BindsTo s X #[[u],[]] [(x,u)])
  (S:∀H:Hp,rH H->bV K H a (I.map V.int)->sp [.ref a] H (λv _=>v = .bl true) λ_ _ _=>False)
  (N:∀H e s',CX [] H c (λ_ _ _=>False) e s'->False) :
  codeAny (model P w) callerA (.call (.ref fa) #[[.ref a],[]]) (λr s'=>r = .ok (.ret (.bool true))/\OldK c.heap s'.heap/\s'.os=c.os/\AllBare s'.gens) c:=by
 have rv:=Xo hi;have Z:=⇑hi;have j:∀H:Hp,rH H->bV K H a (I.map V.int)->eX P w H c.heap->(∀b,H b≠none->b=a)->(H a≠none->K.lookup a=none)->
   codeAny (model P w) callerA (.call (.ref fa) #[[.ref a],[]]) (λr s'=>r = .ok (.ret (.bool true))/\OldK c.heap s'.heap/\s'.os=c.os/\AllBare s'.gens) c:=by
  intro H Y hS C hA hK;have f:∀{b:Addr} {o:Obj},c.heap.get? b⊂o->H b=none->(lB c.heap H).get? b⊂o:=λe n=>HB e n
  have U:∀{b:Addr} {o:Obj} {M:Array DictEntry} {L:Nat},c.heap.get? b⊂o->o.data = .dict M L->H b=none:=λ{b o M L} e d=>by
   grind
  have i:∀{b:Addr} {m:Nw},c.heap.Ns b m->(lB c.heap H).Ns b m:=λ{b m} ⟨o,M,L,e,d,r⟩=>#[o,M,L,f e (U e d),d,r]
  have t:K.In (lB c.heap H):=λb o e=>f (W b o e) (by
   grind)
  have hM:Mod K G (lB c.heap H):=#[t,i B,#[T,i g,R],let ⟨mc,h1,h2⟩:=y;#[mc,i h1,h2]]
  have e0:mi P w K G (lB c.heap H) callerA [] c H:=#[rfl,hM,λb o e=>Lw e,Nat.le_of_eq (Gf _ _),trivial,λb g=>uf (show b∈([]:L7)from g) (by simp),C,.of_eq hg]
  erw[codeAny_mono ((F _ t (i B)).run callerA [] c H #[[.ref a],[]] [.ref a] [.ref a] _ _ hr e0 (l c (.ref a)) (.cons rfl .nil) (S H Y hS)) λr s' h=>?_]
  cases r with
  | error e=>rwa[(N H e s' h).elim]
  | ok fl=>
   cases fl with
   | next=>rwa[False.elim h]
   | brk=>rwa[False.elim h]
   | cont=>rwa[False.elim h]
   | ret u=>
    let⟨v,H',os,p,un,D,r',q⟩:=h;have q':v = .bl true:=q;subst q';obtain rfl:u=Value.bool true:=r';erw[rfl,OldK.of_keep λb o e=>?_,os,p];cases q:H b with
    | none=>rwa[un.keep b o e q (by intro z;rwa[uf (show b∈([]:L7)from z) (by simp)]) (by simp)]
    | some u=>
     rcases Y b with z | ⟨ob,xs,z⟩
     .rw[q]at z;cases z
     .have z2:=un.gS b ob _ z;let⟨e1,_⟩:=C b _ z;let⟨e2,_⟩:=D b _ z2
      lia
 cases hk:K.lookup a with
 | some o=>
  have e:=W a o hk;rw[O]at e;cases e;erw[j (λ_=>none) (λ_=>.inl rfl) (.inr #[_,vs.toArray,_,hk,rfl,rfl,rfl,by simp_all,#v[rv]]) (λb u z=>by have J:(none:Option HO)⊂u:=z;cases J) (λb z=>uf rfl z) λz=>uf rfl z]
 | none=>
  erw[j (λb=>if b=a then some (.gM {cls:=.type "list",data:=.seq vs.toArray} (.lst (I.map V.int)))else none) (λb=>?_) (.inl (.inr #[{cls:=.type "list",data:=.seq vs.toArray},vd rfl])) (λb u z=>?_) (λb z=>?_) λ_=>hk]
  .by_cases g:b=a
   .exact .inr #[_,_,vd g]
   .exact .inl (vc g)
  .by_cases g:b=a
   .have J:=(vd g).symm.trans z;cases J;subst g;rwa[O,by simp_all,vs,_,rv,O]
   .have J:=(vc g).symm.trans z;cases J
  .by_cases g:b=a
   .exact g
   .exact uf (vc g) z
noncomputable abbrev KOf{K:cp}{h:Heap}(_:K.In h):cp:=K
noncomputable def inClass(s:Stmt)(j:Nat):Stmt:=match s with
 | .ClassDef _ _ _ body _ _ _ _ _ _ _=>body.getD j (.Pass #[0,0,0,0])
 | _=>.Pass #[0,0,0,0]
noncomputable def dQ(s:Stmt):Arguments:=match s with
 | .FunctionDef _ a _ _ _ _ _ _ _ _=>a
 | _=>{posonlyargs:=[],args:=[],vararg:=none,kwonlyargs:=[],kw_defaults:=[],kwarg:=none,defaults:=[]}
noncomputable def dq(s:Stmt):List Stmt:=match s with
 | .FunctionDef _ _ b _ _ _ _ _ _ _=>b
 | _=>[]
noncomputable def bR(s:Stmt):Scope:=match s with
 | .FunctionDef _ _ _ _ _ _ sc _ _ _=>sc
 | _=>{kind:=.function,names:=[],isGenerator:=false,isCoroutine:=false}
noncomputable abbrev pA:nz:=λq q q q q q=>False
noncomputable abbrev E0:XK:=λq q q=>False
def dy:Passes pA X E0:=λq q q q q q q h=>h.elim
structure fi(K:cp)(x qual:Str)(st:Stmt)(f:Addr)(fd:FuncData):Prop where
 ex:∃(oc:Value) (od:Option Addr) (kV doc pm:Value) (an:Option Addr) (cdv ct:Value) (Oi:Array (Nv)),
  fd=PySem.W.fnOf x qual (dQ st) (dq st) (bR st) .none kV doc pm an cdv ct/\K.lookup f=some #[oc,od,.func fd,Oi]/\PySem.W.codeIn K cdv qual=true
 kp:PySem.W.keepIn K (.ref f)=true
section
variable{P:Program}{w:World}{K:cp}{mg:Nw}{base:Heap}
def fi.ok{x a:Str}{st:Stmt}{f:Addr}{g:FuncData}{N ps:L8}{k:Nat}{sp:Sp}(F:fi K x a st f g)(S:bW N ps (bR st))(len:∀vs H Q E,sp vs H Q E->⇑vs=⇑ps)
  (c:∀(b:Value) (A:Around) (outer:Nr) (s:Shared) (H:Hp) (vs:N2) (Q:VK) (E:XK),dg k (A.deeper (envOfC a (bR st) s⁻¹ f b))->sp vs H Q E->
   ∃t,lu (dh pA P w K mg base N a (bR st) f b A outer s H E).i7 (dq st) t/\t {nx:=λZ H'=>Q .cV H',rt:=Q} (start N vs) H):dP P w K mg base pA (k+1) f g ps sp:=by
 let⟨p,r,kV,i,u,n,b,o,m,rfl,l,d⟩:=F.ex;erw[MY l d S len λA outer s H vs Q E j e=>?_]
 let⟨t,h,q⟩:=c b A outer s H vs Q E j e;rwa[t,h.i7,q]
def fi.binds{x a:Str}{st:Stmt}{f:Addr}{g:FuncData}{ps:L8}(F:fi K x a st f g)
  (h:∀(kV c e:Value) (an:Option Addr) (b d:Value) (us:L9),⇑us=⇑ps->bindArgs (PySem.W.fnOf x a (dQ st) (dq st) (bR st) .none kV c e an b d) #[us,[]]=pure (ps.zip us)):Binds K g ps []:=by
 let⟨l,m,kV,c,e,an,b,d,j,rfl,k,i⟩:=F.ex;rwa[.all (h kV c e an b d)]
def jJ{x a:Str}{st:Stmt}{f:Addr}{i:Value}{j an:Option Addr}{e:Array (Nv)}{kV d h b g:Value}(l:K.lookup f=some #[i,j,.func (PySem.W.fnOf x a (dQ st) (dq st) (bR st) .none kV d h an b g),e])
  (c:PySem.W.codeIn K b a=true) (k:PySem.W.keepIn K (.ref f)=true):fi K x a st f (PySem.W.fnOf x a (dQ st) (dq st) (bR st) .none kV d h an b g):=#[#[i,j,kV,d,h,an,b,g,e,rfl,l,c],k]
end
def Jt(a:dg k A):A.units+1<cLine:=vD (Nat.add_le_add_left (by decide:1<=64) _) a.units
section
variable{X:Cx}
def pv(i:Nat)(b:X.N[i]?⊂x:=by rfl)(d:tj X.env.scope x:=by first | exact Or.inl rfl | exact Or.inr (Or.inl rfl) | rwa[Or.inr (Or.inr rfl)])(c:(x==("__debug__" : Str))=false:=by decide)
  (a:(x==("__classdict__" : Str))=false:=by decide):PE X (.Name x pos) (eN i):=NG b d c a
end
def gC{A B:Prop}(h:B):if false=true then A else B:=by
 rw[vc vF];rwa[h]
def dt{A B:Prop}(h:A):if true=true then A else B:=by
 rw[vd rfl];rwa[h]
def bU(H H':Hp):Prop:=∀b o,H b⊂o->H' b⊂o
def bU.refl(H:Hp):bU H H:=λq q h=>h
def bU.trans{H d e:Hp}(a:bU H d)(b:bU d e):bU H e:=λc o h=>b c o (a c o h)
def bU.seq{K:cp}{H H':Hp}{a:Addr}{xs:N2}(e:bU H H')(h:bV K H a xs):bV K H' a xs:=by
 rcases h with(h | ⟨o,h⟩) | h
 .exact .inl (.inl (e _ _ h))
 .exact .inl (.inr #[o,e _ _ h])
 .exact .inr h
section
variable{κ:Type}[DecidableEq κ]
noncomputable def cX(kvs:List (κ×V))(k:κ):N3:=(kvs.find? λkv=>decide (kv.1=k)).map (·.2)
noncomputable def putK(kvs:List (κ×V))(k:κ)(v:V):List (κ×V):=
 if(kvs.any λkv=>decide (kv.1=k))=true then kvs.map (λkv=>if kv.1=k then(kv.1,v)else kv)else kvs++[(k,v)]
def qN{p:κ×V}{r:List (κ×V)}{k:κ}(e:p.1=k):cX (p::r) k⊂p.2:=by simp[cX,List.find?_cons,e]
def qM{p:κ×V}{r:List (κ×V)}{k:κ}(e:¬p.1=k):cX (p::r) k=cX r k:=by simp[cX,List.find?_cons,e]
theorem Zr(k:κ):∀kvs:List (κ×V),(kvs.any λkv=>decide (kv.1=k))=(cX kvs k).isSome
 | []=>rfl
 | p::r=>by
  rw[any_cons];by_cases e:p.1=k
  .simp only[qN e,decide_eq_true e,Bool.true_or,Option.isSome_some]
  .rw[qM e,vH e,Bool.false_or];rwa[Zr k r]
theorem C1(k j:κ)(y:V):∀kvs:List (κ×V),cX (kvs.map λkv=>if kv.1=k then(kv.1,y)else kv) j=(cX kvs j).map λx=>if j=k then y else x
 | []=>rfl
 | p::r=>by
  have a:=C1 k j y r;rw[v9];by_cases h:p.1=k
  .rw[vd h];by_cases e:p.1=j
   .rw[qN (p:=(p.1,y)) e,qN e,Option.map_some,vd (e.symm.trans h)]
   .rw[qM (p:=(p.1,y)) e,qM e,a]
  .rw[vc h];by_cases e:p.1=j
   .rw[qN (p:=p) e,qN e,Option.map_some,vc (λz=>h (e.trans z))]
   .rw[qM (p:=p) e,qM e,a]
theorem Xn(k j:κ)(y:V):∀kvs:List (κ×V),cX kvs k=none->cX (kvs++[(k,y)]) j=if j=k then some y else cX kvs j
 | [],_=>by
  by_cases e:k=j
  .rw[vd e.symm];rwa[qN (p:=(k,y)) e]
  .rw[vc (λz=>e z.symm)];rwa[qM (p:=(k,y)) e]
 | p::r,hn=>by
  rw[cons_append];have a:¬p.1=k:=λz=>by rw[qN z]at hn;cases hn
  rw[qM a]at hn;have b:=Xn k j y r hn;by_cases e:p.1=j
  .rw[qN e,qN e,vc (λz=>a (e.trans z))]
  .rw[qM e,qM e,b]
def C2(kvs:List (κ×V))(k j:κ)(y:V):cX (putK kvs k y) j=if j=k then some y else cX kvs j:=by
 unfold putK;by_cases a:(kvs.any λkv=>decide (kv.1=k))=true
 .rw[vd a,C1];rw[Zr]at a;by_cases e:j=k
  .let⟨x,b⟩:=Option.isSome_iff_exists.mp a
   simp_all
  simp_all
 .rw[vc a];erw[Xn k j y kvs ?_];rw[Zr]at a
  simp_all
def Yk(kvs:List (κ×V))(k:κ)(v:V):⇑(putK kvs k v)<=⇑kvs+1:=by
 unfold putK;split
 .rw[vt];lia
 .rw[vn,vQ,length_nil];lia
def fP.gU(r:fP o u):o.isSome=u.isSome:=by
 cases o with
 | none=>cases u with
  | none=>rfl
  | some _=>rwa[(show False from r).elim]
 | some _=>cases u with
  | none=>rwa[(show False from r).elim]
  | some _=>rfl
def KV.val{kvs:List (κ×V)}{vs:List (κ×Value)}(r:KV kvs vs)(k:κ):fP (cX kvs k) (valueAt vs k):=by
 unfold KV at r
 induction r with
 | nil=>rwa[True.intro]
 | @cons p q ps qs h t ih=>
  let⟨c,d⟩:=h;by_cases e:p.1=k
  .have a:q.1=k:=c.symm.trans e;have b:valueAt (q::qs) k⊂q.2:=by simp[valueAt,List.find?_cons,a]
   rw[qN e,b];rwa[d]
  .have a:¬q.1=k:=λz=>e (c.trans z)
   have b:valueAt (q::qs) k=valueAt qs k:=by simp[valueAt,List.find?_cons,a]
   rw[qM e,b];rwa[ih]
def KV.any(r:KV kvs vs)(k:κ):(kvs.any λkv=>decide (kv.1=k))=vs.any λkv=>decide (kv.1=k):=by
 unfold KV at r
 induction r with
 | nil=>rfl
 | cons h t ih=>simp_all
def KV.r9(r:KV kvs vs)(k:κ)(c:RelV y u) :
  KV (kvs.map λkv=>if kv.1=k then(kv.1,y)else kv) (vs.map λkv=>if kv.1=k then(kv.1,u)else kv):=by
 unfold KV at r|-
 induction r with
 | nil=>rwa[.nil]
 | @cons p q ps qs h t ih=>
  rw[v9,v9];erw[.cons ?_ ih];let⟨a,b⟩:=h;by_cases e:p.1=k
  .rw[vd e,vd (a.symm.trans e)];rwa[a,c]
  .rw[vc e,vc (λz=>e (a.trans z))];rwa[a,b]
def KV.put(r:KV kvs vs)(k:κ)(a:RelV y u):KV (putK kvs k y) (stored vs k u):=by
 unfold putK stored;rw[r.any k];by_cases e:(vs.any λkv=>decide (kv.1=k))=true
 .rw[vd e,vd e];rwa[r.r9 k a]
 .rw[vc e,vc e];rwa[Paired.snoc r #[rfl,a]]
def KV.keys{kvs:List (κ×V)}{vs:List (κ×Value)}(r:KV kvs vs):kvs.map (·.1)=vs.map (·.1):=by
 unfold KV at r
 induction r with
 | nil=>rfl
 | cons h t ih=>simp_all
def KV.length(r:KV kvs vs):⇑kvs=⇑vs:=Paired.length r
end
def xS(r:RelV (kV k) u):(cb P w).is k u=true:=by
 cases k with
 | inl i=>let⟨t,e⟩:=(show∃t,u=Value.int i t from r);subst e;rwa[Fc P w i t]
 | inr x=>let⟨t,e⟩:=(show∃t,u=Value.str x t from r);subst e;rwa[Fd P w x t]
theorem xR:∀{ks:List Key} {us:L9},Vals (ks.map kV) us->ItemsAre (cb P w) ks us
 | [],_,r=>by rw[map_nil]at r;cases r;rwa[.nil]
 | k::ks,_,r=>by
  rw[v9]at r;cases r with
  | cons h t=>rwa[.cons (xS h) (xR t)]
noncomputable abbrev KT(H:Hp):List (List Key×V)->List (List Key×Addr×Value)->Prop:=Paired λp q=>p.1=q.1/\H q.2.1⊂(.tup (p.1.map kV))/\RelV p.2 q.2.2
def KT.val{H:Hp}{kvs:List (List Key×V)}{xs:List (List Key×Addr×Value)}(r:KT H kvs xs)(k:List Key):fP (cX kvs k) ((atKey xs k).map (·.2)):=by
 induction r with
 | nil=>rwa[True.intro]
 | @cons p q ps qs h t ih=>
  let⟨c,j,d⟩:=h;by_cases e:p.1=k
  .have a:q.1=k:=c.symm.trans e;have b:atKey (q::qs) k⊂q.2:=by simp[atKey,List.find?_cons,a]
   rw[qN e,b];rwa[d]
  .have a:¬q.1=k:=λz=>e (c.trans z)
   have b:atKey (q::qs) k=atKey qs k:=by simp[atKey,List.find?_cons,a]
   rw[qM e,b];rwa[ih]
def KT.r9{H:Hp}(r:KT H kvs xs)(k:List Key)(d:RelV y u) :
  KT H (kvs.map λkv=>if kv.1=k then(kv.1,y)else kv) (xs.map (putAt k u)):=by
 induction r with
 | nil=>rwa[.nil]
 | @cons p q ps qs h t ih=>
  rw[v9,v9];erw[.cons ?_ ih];let⟨a,b,c⟩:=h;unfold putAt;by_cases e:p.1=k
  .rw[vd e,vd (a.symm.trans e)];rwa[a,b,d]
  .rw[vc e,vc (λz=>e (a.trans z))];rwa[a,b,c]
def KT.put{H:Hp}(r:KT H kvs xs)(k:List Key)(c:H b⊂(.tup (k.map kV)))(a:RelV y u) :
  KT H (putK kvs k y) (storedH xs k b u):=by
 have e:(kvs.any λkv=>decide (kv.1=k))=(atKey xs k).isSome:=by
  rw[Zr,(r.val k).gU,Option.isSome_map]
 unfold putK storedH;rw[e];by_cases q:(atKey xs k).isSome=true
 .rw[vd q,vd q];rwa[r.r9 k a]
 .rw[vc q,vc q];rwa[Paired.snoc r #[rfl,c,a]]
def KT.keeps{H H':Hp}(r:KT H kvs xs)(a:∀b ys,H b⊂.tup ys->H' b⊂.tup ys):KT H' kvs xs:=
 Paired.tR r λq q z=>#[z.1,a _ _ z.2.1,z.2.2]
section
variable{P:Program}{w:World}{H:Hp}{h:Heap}{a:Addr}
def EO(b:eX P w H h)(e:Rd H a u):cm P w H h a u:=e.ok b
def tG(b:eX P w H h)(e:Rd H a (.dK kvs)):⇑kvs<=sizeLine/\(a==sysModules)=false/\∃vs,KV kvs vs/\h.DictOf (cb P w) a vs:=
 show cm P w H h a (.dK kvs)from EO b e
def Wj(b:eX P w H h)(e:H a⊂.dK kvs):⇑kvs<=sizeLine/\(a==sysModules)=false/\∃vs,KV kvs vs/\h.DictOf (cb P w) a vs:=tG b (.inl e)
def Wy(g:eX P w H h)(e:H a⊂(.tup (ks.map kV))):(tupleKind (cb P w)).is h ks a:=by
 let⟨q,b,r,o,c,d,n,f⟩:=(show cm P w H h a (.tup (ks.map kV))from g a _ e)
 rwa[o,b.toArray,n,c,d,f,#v[xR r]]
def vM(d:eX P w H h)(e:Rd H a (.dT kvs)):⇑kvs<=sizeLine/\(a==sysModules)=false/\
  ∃xs,KT H kvs xs/\h.DictOfH (tupleKind (cb P w)) a xs:=by
 let⟨z,y,xs,r,o,g,f,i,j,k,n,s⟩:=(show cm P w H h a (.dT kvs)from EO d e)
 erw[z,y,xs,r,o,g,f,i,j,k,n,λx b=>?_,s];have c:∀{l:List (List Key×V)} {m:List (List Key×Addr×Value)},KT H l m->∀x∈m,(tupleKind (cb P w)).is h x.1 x.2.1:=by
  intro l m q
  induction q with
  | nil=>intro x b;rwa[nomatch b]
  | @cons p q ps qs hq t ih=>
   intro x b;rcases mem_cons.mp b with e | b
   .subst e;rwa[Wy d (by rw[<-hq.1];rwa[hq.2.1])]
   .exact ih x b
 rwa[c r x b]
def MW(b:eX P w H h)(e:H a⊂.dT kvs):⇑kvs<=sizeLine/\(a==sysModules)=false/\
  ∃xs,KT H kvs xs/\h.DictOfH (tupleKind (cb P w)) a xs:=vM b (.inl e)
end
def cY(H:Hp)(a:Addr)(y:V)(r:N3):Prop:=
 (∃kvs k,Rd H a (.dK kvs)/\y=kV k/\r=cX kvs k)\/∃kvs k b,Rd H a (.dT kvs)/\y = .ref b/\H b⊂(.tup (k.map kV))/\r=cX kvs k
def fV(H:Hp)(a:Addr)(y v:V)(H':Hp):Prop:=
 (∃kvs k,H a⊂.dK kvs/\y=kV k/\⇑kvs<sizeLine/\H'=upd H a (.dK (putK kvs k v)))\/
 ∃kvs k b,H a⊂.dT kvs/\y = .ref b/\H b⊂(.tup (k.map kV))/\⇑kvs<sizeLine/\H'=upd H a (.dT (putK kvs k v))
def cY.k{H:Hp}{a:Addr}{kvs:List (Key×V)}{k:Key}(e:H a⊂.dK kvs):cY H a (kV k) (cX kvs k):=.inl #[kvs,k,.inl e,rfl,rfl]
def fV.k{H:Hp}{a:Addr}{kvs:List (Key×V)}{k:Key}{v:V}(e:H a⊂.dK kvs)(b:⇑kvs<sizeLine):fV H a (kV k) v (upd H a (.dK (putK kvs k v))):=.inl #[kvs,k,e,rfl,b,rfl]
section
variable{X:Cx}{pins:Ny}{σ:St}{H:Hp}{s:Shared}{a:Addr}{y v:V}{u r:Value}{o:N3}{A:Around}{E:Nz}
def Inv.big(I:Inv X pins σ H s):sysModules<s⁻¹:=by
 have h:mainGlobals<s⁻¹:=(I.mod.glob.keeps I.bk).lt;rwa[vZ nofun h]
def xF{Q:Nz}(B:A.units+1<cLine)(I:Inv X pins σ H s)(g:cY H a y (some v))(r:RelV y u)(h:∀f s',Inv X pins σ H s'->RelV v f->Q f s') :
  wpAny (model X.prog X.w) A (getItem (.ref a) u) Q E s:=by
 rcases g with⟨q,k,e,j,l⟩ | ⟨q,k,b,e,j,t,l⟩
 .subst j;let⟨z,w,C,c,i⟩:=tG I.cv e;let⟨f,n,d⟩:=fP.some_of (v:=v) (o:=valueAt C k) (by rw[l];rwa[c.val k]);rwa[wpAny_getItem_of (xS r) i.mapOf n (h f _ (I.tok _) d)]
 .subst j;cases(show u=Value.ref b from r);let⟨z,w,D,c,i⟩:=vM I.cv e;let⟨f,n,d⟩:=fP.some_of (v:=v) (o:=(atKey D k).map (·.2)) (by rw[l];rwa[c.val k]);let⟨p,x,m⟩:=vg.mp n;erw[wpAny_getItem_heap (tupleKind_room_in1 B) (Wy I.cv t) i x ?_];rw[m];rwa[h f _ (I.tok _) d]
def NT{Q:Nz}(p:A.units+1<cLine)(I:Inv X pins σ H s)(g:cY H a y o)(m:RelV y u)(h:∀s',Inv X pins σ H s'->Q (.bool o.isSome) s') :
  wpAny (model X.prog X.w) A (compareOp .In u (.ref a)) Q E s:=by
 rcases g with⟨j,k,e,f,l⟩ | ⟨j,k,b,e,f,n,l⟩
 .subst f;let⟨z,i,r,c,d⟩:=tG I.cv e;erw[wpAny_in_of (xS m) i d.mapOf ?_];rw[<-(c.val k).gU,<-l];rwa[h _ (I.tok _)]
 .subst f;cases(show u=Value.ref b from m);let⟨z,i,t,c,d⟩:=vM I.cv e;erw[wpAny_in_heap (tupleKind_room_in1 p) (Wy I.cv n) i d ?_];have q:=(c.val k).gU;rw[Option.isSome_map]at q;rw[<-q,<-l];rwa[h _ (I.tok _)]
def YG(I:Inv X pins σ H s)(h:sV (H a))(g:Heap.SameBut a s.heap h')(f:∃q,h'.get? a⊂q)(c:cm X.prog X.w (upd H a ob) h' a ob) :
  Inv X pins σ (upd H a ob) {s with heap:=h',toks:=t'}:=
 I.write (x:=a) (e:=a) h (.inl rfl) (λb q d z=>(g.2 b d).trans z) f c
def KM{H':Hp}(z:⇑kvs<=sizeLine)(c:(a==sysModules)=false)(b:KV kvs vs)(dd:h'.DictOf (cb P w) a vs) :
  cm P w H' h' a (.dK kvs):=#[z,c,vs,b,dd]
def F0{H':Hp}{Q:Unit->Shared->Prop}(R:A.units+1<cLine)(I:Inv X pins σ H s)(g:fV H a y v H')(G:RelV y u)(F:RelV v r)(h:∀s',Inv X pins σ H' s'->Q () s') :
  wpAny (model X.prog X.w) A (setItem (.ref a) u r) Q E s:=by
 rcases g with⟨d,k,e,o,l,n⟩ | ⟨d,k,b,e,o,B,l,n⟩
 .subst o n;let⟨z,p,S,f,m⟩:=Wj I.cv e;have x:⇑S<=sizeLine:=by rw[<-⇑f];exact z
  have t:⇑(putK d k v)<=sizeLine:=by have:=Yk d k v;lia
  erw[wpAny_setItem_pairs (hsz:=x) (xS G) m λD i w=>h _ ?_]
  have P:∃q,D.get? a⊂q:=let ⟨q,_,_,j,_⟩:=i;#[q,j];rwa[YG I (by rw[e];rwa[True.intro]) w P (KM t p (f.put k F) i)]
 .subst o n;cases(show u=Value.ref b from G);let⟨z,p,T,f,m⟩:=MW I.cv e;have x:⇑T<=sizeLine:=by rw[<-Paired.length f];exact z
  have t:⇑(putK d k v)<=sizeLine:=by have:=Yk d k v;lia
  erw[wpAny_setItem_heap (hsz:=x) (tupleKind_room_in1 R) (Wy I.cv B) m λD i w=>h _ ?_]
  let⟨q,K,J,j,L,M,N,Z,O⟩:=i;erw[YG I (by rw[e];rwa[True.intro]) w #[q,j] #[t,p,_,(f.put k B F).keeps λc U C=>?_,q,K,J,j,L,M,N,O]];rw[jh (Jz C e (λz=>nomatch z))];rwa[C]
end
def sW(i:Expr):Prop:=∀ov iv,subscripted i false ov iv=operate [ov,iv] (getItem ov iv)
def Mu{prog:Program}{w:World}{A:Around}{E:Nz}{s:Shared}{env:Env}{b a:Expr}{l:Pos}{T q:String}{Q:Nz}
  (n:typeLookup (.type T) "__getitem__"= pure (some (.builtin q))) (p:sW a)
  (h:wpAny (model prog w) A (eval b env) (λo e=>wpAny (model prog w) A (eval a env) (λi c=>c.TypeIs o T/\wpAny (model prog w) A (getItem o i) Q E c) E e) E s) :
  wpAny (model prog w) A (eval (.Subscript b a l) env) Q E s:=by
 erw[Subscript_ (wpAny_mono h (λo e j=>wpAny_mono j (λi c d=>?_) λZ Z x=>x) λZ Z x=>x)];let⟨m,d⟩:=d;unfold subscriptTail;erw[uh ?_];rw[getitemInPython_of_ne m.not_modules];erw[uh (wpAny_specialOf m n ?_)];have g:wpAny (model prog w) A (subscripted a false o i) (λr f=>wpAny (model prog w) A (letTemporaryGo b o r >>= λZ=>pure r) Q E f) E c:=by
  rw[p o i];rwa[wpAny_operating (wpAny_mono d (λr f k=>uh (wpAny_letTemporaryGo (ug k))) λZ Z x=>x)]
 first
  | rwa[ug (uh g)]
  | rwa[uh (ug (uh g))]
  | rwa[uh g]
def wo{f:St}{H:Hp}(I:Inv X pins f H s)(g:cY H a y o):s.TypeIs (.ref a) "dict":=by
 rcases g with⟨d,k,e,_,_⟩ | ⟨d,k,b,e,_,_,_⟩
 .let⟨_,_,h,_,c⟩:=tG I.cv e;rwa[c.typeIs]
 .let⟨_,_,i,_,c⟩:=vM I.cv e;rwa[c.typeIs]
def ql(td ty:TE):TE:=λσ H Q=>td σ H λx H1=>ty σ H1 λy H2=>∃a v,x = .ref a/\cY H2 a y (some v)/\Q v H2
def uA(ty td:TE):TE:=λσ H Q=>ty σ H λy H1=>td σ H1 λx H2=>∃a o,x = .ref a/\cY H2 a y o/\Q (.bl o.isSome) H2
def pX(td ty tv:TE):TS:=λD σ H=>tv σ H λv H1=>td σ H1 λx H2=>ty σ H2 λy H3=>∃a H4,x = .ref a/\fV H3 a y v H4/\D.nx σ H4
section
variable{X:Cx}{o i e value:Expr}{pos pos' tpos:Pos}{td ty tv:TE}
def JH(q:X.A.units+1<cLine)(n:PE X o td)(hi:PE X i ty)(p:sW i:=by rwa[λZ Z=>rfl]):PE X (.Subscript o i pos) (ql td ty):=by
 intro b s e H Q I h;erw[Mu PySem.F.slot_dict_getitem.lookup p (cC (n b s e H _ I h) λu A z_=>?_)];let⟨x,f,k,w,r⟩:=z_;erw[cC (hi b A e f _ k r) λB C z_=>?_];obtain⟨y,j,d,z,a,v,m,g,t⟩:=z_;subst m;obtain rfl:u=Value.ref a:=w;rwa[wo d g,xF q d g z λE D l c=>#[v,j,l,c,t]]
def ND(n:X.A.units+1<cLine)(hi:PE X i ty)(m:PE X o td):PC X .In i o (uA ty td):=by
 intro b s c H Q I h;erw[cC (hi b s c H _ I h) λw v z_=>?_];let⟨y,d,f,t,p⟩:=z_;erw[cC (m b v c d _ f p) λu z z_=>?_];obtain⟨x,e,j,r,a,ov,l,g,q⟩:=z_
 subst l;obtain rfl:u=Value.ref a:=r;rwa[NT n j g t λA k=>#[.bl ov.isSome,e,k,rfl,q]]
def zK(t:X.A.units+1<cLine)(p:PE X o td)(hi:PE X i ty)(w:PE X value tv)(q:swapsWith value (some (.Subscript o i pos')) pos.line X.env=pure false) :
  PS X (.Assign [.Subscript o i pos'] value pos) (pX td ty tv):=by
 intro b s c H D I h;erw[wpAny_Assign_Subscript (cC (w b s c H _ I h) λr G z_=>?_) q];let⟨v,d,j,C,z⟩:=z_;erw[cC (p b G c d _ j z) λu J z1_=>?_];let⟨x,e,k,E,A⟩:=z1_;erw[cC (hi b J c e _ k A) λL M z_=>?_];obtain⟨y,K,l,F,a,f,n,g,B⟩:=z_;subst n;obtain rfl:u=Value.ref a:=E;rwa[F0 t l g F C λN m=>#[c,f,m,B]]
end
def B7{H:Hp}(h:Heap)(a:sysModules<h.objs.size):cm P w H (h.push {cls:=.type "dict",data:=.dict #[]}) h.objs.size (.dK []):=
 #[va _,beq_eq_false_iff_ne.mpr (Ne.symm (vE a)),[],.nil,Heap.DictOf.new h]
def ox:TE:=λq H Q=>∀p,H p=none->Q (.ref p) (upd H p (.dK []))
section
variable{X:Cx}{pos:Pos}
def Z6:PE X (.Dict [] [] pos) ox:=λb s c H Q I h=>
 wpAny_Dict_empty #[.ref s⁻¹,_,I.laid (a:=s⁻¹) (o:=.dK []) (t':=s.toks) (λj j q=>vJ _ q) (vb _) (B7 s.heap I.big),rfl,h _ (I.cv.fresh (vb _))]
end
noncomputable def gy:List (TE×TE)->St->Hp->(List (V×V)->Hp->Prop)->Prop
 | [],_,H,Q=>Q [] H
 | (tk,tv)::r,σ,H,Q=>tk σ H λx H1=>tv σ H1 λy H2=>gy r σ H2 λps H3=>Q ((x,y)::ps) H3
noncomputable abbrev VV:List (V×V)->List (Value×Value)->Prop:=Paired λp q=>RelV p.1 q.1/\RelV p.2 q.2
def uT(X:Cx)(pos:Pos)(keys:List (Option Expr))(values:Nt)(trs:List (TE×TE)):Prop:=
 ∀(pins:Ny) (s:Shared) (σ:St) (H:Hp) (Q:List (V×V)->Hp->Prop),Inv X pins σ H s->gy trs σ H Q->
  wpAny (model X.prog X.w) X.A (evalPairs (pairTrees keys values X.env pos)) (λvs s'=>∃ps H',Inv X pins σ H' s'/\VV ps vs/\Q ps H') X.xe s
def Ma{X:Cx}{a:Pos}:uT X a [] [] []:=λb s c H Q I h=>pairTrees_nil_walk #[[],H,I,.nil,h]
def HS{X:Cx}{b:Pos}{k v:Expr}{ks:List (Option Expr)}{vs:Nt}{f g:TE}{c:List (TE×TE)}(p:PE X k f)(r:PE X v g)(q:uT X b ks vs c) :
  uT X b (some k::ks) (v::vs) ((f,g)::c):=λa s e H Q I h=>
 pairTrees_cons_walk (cC (p a s e H _ I h) λu D ⟨x,i,m,B,w⟩=>cC (r a D e i _ m w) λG E ⟨y,j,n,C,z⟩=>
  cC (q a E e j _ n z) λJ F ⟨t,l,o,d,A⟩=>#[(x,y)::t,l,o,.cons #[B,C] d,A])
noncomputable def cG(kvs more:List (Key×V)):List (Key×V):=more.foldl (λacc kv=>putK acc kv.1 kv.2) kvs
def KV.merge:∀{more:List (Key×V)} {a:List (Key×Value)} {kvs:List (Key×V)} {vs:List (Key×Value)},KV more a->KV kvs vs->KV (cG kvs more) (merged vs a):=by
 intro more a kvs vs r;unfold KV at r
 induction r generalizing kvs vs with
 | nil=>intro q;rwa[q]
 | @cons p q ps qs h t ih=>
  intro b;have e:KV (putK kvs p.1 p.2) (stored vs q.1 q.2):=by
   have:=b.put p.1 h.2;rw[<-h.1];rwa[this]
  rwa[ih e]
theorem Qg:∀(more kvs:List (Key×V)),⇑(cG kvs more)<=⇑kvs+⇑more
 | [],kvs=>by show ⇑kvs<=⇑kvs+0;lia
 | p::r,kvs=>by
  have a:=Qg r (putK kvs p.1 p.2);have b:=Yk kvs p.1 p.2;show(cG (putK kvs p.1 p.2) r).length<=_;rw[vQ];lia
theorem Wf{P:Program}{w:World}:∀{kvs:List (Key×V)} {e:List (Value×Value)},VV (kvs.map λkv=>(kV kv.1,kv.2)) e->∃d,Carries (cb P w) e d/\KV kvs d
 | [],_,r=>by rw[map_nil]at r;cases r;rwa[[],True.intro,.nil]
 | p::kvs,_,r=>by
  rw[v9]at r;cases r with
  | @cons a b as bs h t=>
   let⟨d,c,q⟩:=Wf (P:=P) (w:=w) t;let⟨g,f⟩:=b;rwa[(p.1,f)::d,#[xS h.1,rfl,c],.cons #[rfl,h.2] q]
def rf(trs:List (TE×TE)):TE:=λσ H Q=>∀p,H p=none->gy trs σ (upd H p (.dK [])) λps H2=>H2 p⊂(.dK [])/\∃kvs:List (Key×V),ps=kvs.map (λkv=>(kV kv.1,kv.2))/\⇑kvs<=15/\Q (.ref p) (upd H2 p (.dK (cG [] kvs)))
def LV{X:Cx}{k:Pos}{b:List (Option Expr)}{d:Nt}{l:List (TE×TE)}(h:uT X k b d l)(g:b.all (·.isSome)=true)(B:⇑b=⇑d)(v:b≠[])
  (m:⇑b<=15):PE X (.Dict b d k) (rf l):=by
 intro j s M H Q I q;have C:=I.cv.fresh (vb s⁻¹);have r:=I.laid (a:=s⁻¹) (o:=.dK []) (h':=s.heap.push {cls:=.type "dict",data:=.dict #[]}) (t':=s.toks) (λZ Z q=>vJ _ q) (vb _) (B7 s.heap I.big);erw[wpAny_Dict_walk (knd:=cb X.prog X.w) g B v m (cC (h j _ M _ _ r (q _ C)) λT S z_=>?_)];obtain⟨R,N,p,n,e,i,u,O,F⟩:=z_;subst u;let⟨K,c,J⟩:=Wf (P:=X.prog) (w:=X.w) n;let⟨z,y,L,G,t⟩:=Wj p.cv e;cases G;erw[K,c,t,λh' f D=>#[.ref s⁻¹,_,?_,rfl,F]];have E:⇑(cG [] i)<=sizeLine:=by
  have x:=Qg i [];rw[length_nil]at x;rw[sizeLine_eq];lia
 have A:∃q,h'.get? s⁻¹⊂q:=let ⟨q,_,_,hq,_⟩:=f;#[q,hq];rwa[YG p (by rw[e];rwa[True.intro]) D A (KM E y (J.merge .nil) f)]
structure M1(X:Cx)(o:Expr)(m:Str)(apos:Pos)(e:Expr)(cpos:Pos):Prop where
 base:attributeBase o m X.env (eval o X.env)=eval o X.env
 Ao:((backTo cpos (starEach [e] X.env)).all (λx=>!x.1)&&(backToKw cpos (keywordEach [] X.env)).all (λx=>x.1.isSome)
  && decide (⇑([e]:Nt)+⇑([]:List Keyword)+(if([]:List Keyword).isEmpty then 0 else 1)<30))=true
 line:(apos.endLine==cpos.line)=true
 trees:backTo cpos (starEach [e] X.env)=[(false,eval e X.env)]
section
variable{κ:Type}[DecidableEq κ]
def Le{kvs:List (κ×V)}{k:κ}(h:cX kvs k=none):¬k∈kvs.map (·.1):=by
 intro m;let⟨p,a,e⟩:=vK.mp m;have q:(kvs.any λkv=>decide (kv.1=k))=true:=any_eq_true.mpr #[p,a,vG e];rw[Zr,h]at q;rwa[uf q (by simp)]
def LD{kvs:List (κ×V)}{k:κ}{v:V}(h:cX kvs k⊂v):k∈kvs.map (·.1):=by
 have q:(kvs.any λkv=>decide (kv.1=k))=true:=by
  rw[Zr,h]
  all_goals rfl
 simp_all
end
def mX{R:Result->Shared->Prop}(I:Nat->Shared->Prop)
  (u:∀n s,I n s->wpAny (model prog w) A (pyNext it) (λr b=>match r with
   | none=>R (.ok .next) b
   | some v=>wpAny (model prog w) A (letOwnedTupleGo target it v) (λZ g=>wpAny (model prog w) A (assign target env v) (λZ i=>
     wpAny (model prog w) A (forIn ifs true λc r=>if r=true then do let t <-isTrue c env (eval c env);pure (ForInStep.yield t)else pure (ForInStep.yield r)) (λt d=>
      if t=true then wpAny (model prog w) A (eval elt env) (λx j=>
       wpAny (model prog w) A (call (.builtin "list.append") [acc,x]) (λZ k=>∃m,m<n/\I m k) (λZ Z=>False) j) (λZ Z=>False) d
      else∃m,m<n/\I m d) (λZ Z=>False) i) (λZ Z=>False) g) (λZ Z=>False) b) (λZ Z=>False) s)
  (n:Nat) (h:I n s) :
  codeAny (model prog w) A (.compLoop (.ListComp elt [#[target,iter,ifs,0]] scope pos) 0 it acc env) R s:=by
 erw[codeAny_loop rfl I (λn s y=>?_) n h];show wpAny _ A ((compTurn (.ListComp elt [#[target,iter,ifs,0]] scope pos) 0 it acc env).onRaise (λx=>do noteFrame x env;theTreesLotGoes x)) _ _ s;erw[wpAny_noted ?_];rw[compTurn_list];erw[uh (wpAny_standAt (uh (wpAny_mono (u n s y) (λr b e=>?_) λZ Z a=>a.elim)))];cases r with
 | none=>rwa[ug e]
 | some v=>
  erw[uh (wpAny_mono e (λZ g l=>?_) λZ Z a=>a.elim)];erw[uh (wpAny_mono l (λZ i o=>uh (wpAny_mono o (λt d f=>?_) λZ Z a=>a.elim)) λZ Z a=>a.elim)];cases t with
  | false=>rwa[ug #[rfl,f]]
  | true=>
   rwa[uh (uh (wpAny_mono f (λx j p=>uh (wpAny_mono p (λZ k q=>ug (ug #[rfl,q])) λZ Z a=>a.elim)) λZ Z a=>a.elim))]
def PF(X:Cx)(ifs:Nt)(t:TT):Prop:=
 ∀(pins:Ny) (s:Shared) (σ:St) (H:Hp) (Q:Bool->Hp->Prop),Inv X pins σ H s->t σ H Q->
  wpAny (model X.prog X.w) X.A (forIn ifs true λc r=>if r=true then do let ok <-isTrue c X.env (eval c X.env);pure (ForInStep.yield ok)else pure (ForInStep.yield r)) (TP X pins σ Q) X.xe s
def uM:TT:=λq H Q=>Q true H
def JJ:PF X [] uM:=λq q q H q I h=>wpAny_tests_nil #[H,I,h]
def Bc(b:PT X c t):PF X [c] t:=λa s d H Q I h=>wpAny_tests_one (b a s d H Q I h)
noncomputable def dj(env:Env):List (Str×NameKind)->List (Str×Addr)->List (Str×Addr)
 | [],acc=>acc
 | (n,k)::r,acc=>dj env r (if k == .free then(n,(env.cells.lookup n).getD 0)::acc else acc)
def kC(h:∀y∈scope.names,y.2 = .free->∃c,env.cells.lookup y.1⊂c):closureFor scope env=pure (dj env scope.names []):=by
 have l:∀(names:List (Str×NameKind)) (b:List (Str×Addr)),(∀y∈names,y.2 = .free->∃c,env.cells.lookup y.1⊂c)->
   (forIn (m:=Sem) names b λx r=>(match x with | (name,kind)=>if(kind == .free)=true then do let a <-cellOf env name;pure (ForInStep.yield ((name,a)::r))else pure (ForInStep.yield r)))=pure (dj env names b):=by
  intro names
  induction names with
  | nil=>intro b q;rfl
  | cons y r ih=>
   let⟨n,k⟩:=y;intro b d;rw[List.forIn_cons];cases hk:(k==NameKind.free)with
   | true=>
    have e:k = .free:=by simpa using hk
    let⟨c,i⟩:=d (n,k) vq e;have j:cellOf env n=pure c:=by unfold cellOf;rw[i]
    simp only[hk,if_true,j,pure_bind,dj,i,Option.getD_some];rwa[ih _ λy f=>d y (vp _ f)]
   | false=>
    simp only[hk,Bool.false_eq_true,if_false,pure_bind,dj];rwa[ih _ λy f=>d y (vp _ f)]
 have g:=l scope.names [] h;unfold closureFor;simp only[g,pure_bind]
theorem xE:∀(names:List (Str×NameKind)) (acc:List (Str×Addr)),(∀y∈names,y.2 = .free->∃c,env.cells.lookup y.1⊂c)->(∀x c,acc.lookup x⊂c->env.cells.lookup x⊂c)->
  ∀x c,(dj env names acc).lookup x⊂c->env.cells.lookup x⊂c
 | [],_,_,ha,x,c,h=>ha x c h
 | (n,k)::r,acc,hh,ha,x,c,h=>by
  erw[xE r _ (λy d=>hh y (vp _ d)) (λx c e=>?_) x c h];cases hk:(k==NameKind.free)with
  | false=>rw[hk]at e;rwa[ha x c e]
  | true=>
   rw[hk]at e;have a:k = .free:=by simpa using hk
   let⟨f,b⟩:=hh (n,k) vq a;simp only[if_true,b,Option.getD_some]at e;rw[lookup_cons]at e;cases hx:(x==n)with
   | true=>
    rw[hx]at e;have:x=n:=by simpa using hx
    rw[this,b];rwa[e]
   | false=>rw[hx]at e;rwa[ha x c e]
theorem xD:∀(names:List (Str×NameKind)) (acc:List (Str×Addr)) (x:Str),(∃c,acc.lookup x⊂c)->∃c,(dj env names acc).lookup x⊂c
 | [],_,_,h=>h
 | (n,k)::r,acc,x,h=>by
  erw[xD r _ x ?_];cases hk:(k==NameKind.free)with
  | false=>rwa[h]
  | true=>
   simp only[if_true];rw[lookup_cons];cases hx:(x==n)with
   | true=>rwa[_,rfl]
   | false=>rwa[h]
theorem KG:∀(names:List (Str×NameKind)) (acc:List (Str×Addr)) (x:Str),(x,NameKind.free)∈names->∃c,(dj env names acc).lookup x⊂c
 | [],_,_,h=>by simp at h
 | (n,k)::r,acc,x,h=>by
  rcases mem_cons.mp h with e | h
  .cases e;erw[xD r _ _ ?_];simp
  .exact KG r _ x h
theorem Ze{env:Env}:∀{names:List (Str×NameKind)} {x:Str} {k:NameKind},(names.map λ(n,k)=>if(k==NameKind.free&&env.scope.kind == .function&&env.kindOf n==some .cell)then(n,NameKind.cell)else(n,k)).lookup x⊂k->
  ∃b,(x,b)∈names/\names.lookup x⊂b/\(b=k\/(b = .free/\k = .cell))
 | [],_,_,h=>by simp at h
 | (n,k₀)::r,x,k,h=>by
  have i:=@Ze env r x k;rw[v9]at h;dsimp only at h;cases hx:x==n with
  | true=>
   have e:x=n:=by simpa using hx
   subst e;erw[k₀,vq,by simp,?_];by_cases a:(k₀==NameKind.free&&env.scope.kind == .function&&env.kindOf x==some .cell)=true
   .rw[vd a]at h;simp only[lookup_cons,beq_self_eq_true]at h;simp only[Bool.and_eq_true,beq_iff_eq]at a;rwa[.inr #[a.1.1,(vL h).symm]]
   .rw[vc a]at h;simp only[lookup_cons,beq_self_eq_true]at h;rwa[.inl (vL h)]
  | false=>
   have c:(r.map λ(n,k)=>if(k==NameKind.free&&env.scope.kind == .function&&env.kindOf n==some .cell)then(n,NameKind.cell)else(n,k)).lookup x⊂k:=by
    by_cases a:(k₀==NameKind.free&&env.scope.kind == .function&&env.kindOf n==some .cell)=true
    .rw[vd a]at h;simpa only[lookup_cons,hx]using h
    .rw[vc a]at h;simpa only[lookup_cons,hx]using h
   let⟨b,d,f,g⟩:=i c;rwa[b,vp _ d,by simpa only[lookup_cons,hx]using f,g]
theorem KF:∀(names:List (Str×NameKind)) (n:Nat) (acc:List (Str×Addr)) (x:Str) (c:Addr),(cellsFrom n names acc).lookup x⊂c->n<=c\/acc.lookup x⊂c
 | [],_,_,_,_,h=>.inr h
 | (y,k)::r,n,acc,x,c,h=>by
  unfold cellsFrom at h;split at h
  .rcases KF r (n+1) _ x c h with q | q
   .exact .inl ⋯
   .rw[lookup_cons]at q;cases hx:x==y with
    | true=>rw[hx]at q;cases q;rwa[.inl (vb _)]
    | false=>rw[hx]at q;rwa[.inr q]
  .exact KF r n acc x c h
theorem AO:∀(names:List (Str×NameKind)) (n:Nat) (acc:List (Str×Addr)),(∀x c,acc.lookup x⊂c->c<n)->(∀x y c,acc.lookup x⊂c->acc.lookup y⊂c->x=y)->
  ∀x y c,(cellsFrom n names acc).lookup x⊂c->(cellsFrom n names acc).lookup y⊂c->x=y
 | [],_,_,_,hi,x,y,c,h1,h2=>hi x y c h1 h2
 | (z,k)::r,n,acc,hb,hi,x,y,c,h1,h2=>by
  unfold cellsFrom at h1 h2;split at h1
  .rename_i hk;rw[vd hk]at h2;refine AO r (n+1) _ (λx c e=>?_) (λx y c b a=>?_) x y c h1 h2
   .rw[lookup_cons]at e;cases hx:x==z with
    | true=>rw[hx]at e;cases e;rwa[Nat.lt_succ_self _]
    | false=>rw[hx]at e;rwa[Nat.lt_succ_of_lt (hb x c e)]
   .rw[lookup_cons]at b a;cases hx:x==z with
    | true=>
     rw[hx]at b;cases b;cases hy:y==z with
     | true=>rw[beq_iff_eq.mp hx,beq_iff_eq.mp hy]
     | false=>rw[hy]at a;rwa[uf (hb y n a) (Nat.lt_irrefl _)]
    | false=>
     rw[hx]at b;cases hy:y==z with
     | true=>rw[hy]at a;cases a;rwa[uf (hb x n b) (Nat.lt_irrefl _)]
     | false=>rw[hy]at a;rwa[hi x y c b a]
  .rename_i hk;rw[vc hk]at h2;rwa[AO r n acc hb hi x y c h1 h2]
theorem XE:∀(names:List (Str×NameKind)) (n:Nat) (acc:List (Str×Addr)) (x:Str),(∃c,acc.lookup x⊂c)->∃c,(cellsFrom n names acc).lookup x⊂c
 | [],_,_,_,h=>h
 | (y,k)::r,n,acc,x,h=>by
  unfold cellsFrom;split
  .refine XE r (n+1) _ x ?_;rw[lookup_cons];cases hx:x==y with
   | true=>rwa[_,rfl]
   | false=>rwa[h]
  .exact XE r n acc x h
theorem AN:∀(names:List (Str×NameKind)) (n:Nat) (acc:List (Str×Addr)) (x:Str),(x,NameKind.cell)∈names->∃c,(cellsFrom n names acc).lookup x⊂c
 | [],_,_,_,h=>by simp at h
 | (y,k)::r,n,acc,x,h=>by
  unfold cellsFrom;rcases mem_cons.mp h with e | h
  .cases e;simp only[beq_self_eq_true,if_true];rwa[XE r _ _ _ (by simp)]
  .split
   .exact AN r _ _ x h
   .exact AN r _ _ x h
theorem AR:∀(names:List (Str×NameKind)) (n:Nat) (acc:List (Str×Addr)) (x:Str),(x,NameKind.cell)∉names->(cellsFrom n names acc).lookup x=acc.lookup x
 | [],_,_,_,_=>rfl
 | (y,k)::r,n,acc,x,h=>by
  have a:(x,NameKind.cell)∉r:=λq=>h (vp _ q)
  unfold cellsFrom;split
  .rename_i hk;rw[AR r _ _ x a,lookup_cons];cases hx:x==y with
   | true=>rw[beq_iff_eq.mp hx,beq_iff_eq.mp hk]at h;rwa[uf vq h]
   | false=>rfl
  .exact AR r n acc x a
theorem AQ:∀(names:List (Str×NameKind)) (a n:Nat) (acc:List (Str×Addr)) (x:Str) (c:Addr),a<=n->((x,NameKind.cell)∈names\/∀c,acc.lookup x⊂c->a<=c)->(cellsFrom n names acc).lookup x⊂c->a<=c
 | [],_,_,_,_,c,_,h,e=>h.elim (λz=>by simp at z) λz=>z c e
 | (y,k)::r,a,n,acc,x,c,hn,h,e=>by
  unfold cellsFrom at e;split at e
  .refine AQ r a (n+1) _ x c ⋯ ?_ e;rcases h with h | h
   .rcases mem_cons.mp h with q | q
    .cases q;rwa[.inr λc q=>by rw[lookup_cons,beq_self_eq_true]at q;cases q;rwa[hn]]
    .exact .inl q
   .refine .inr λc q=>?_
    rw[lookup_cons]at q;cases hx:x==y with
    | true=>rw[hx]at q;cases q;rwa[hn]
    | false=>rw[hx]at q;rwa[h c q]
  .rename_i hk;erw[AQ r a n acc x c hn ?_ e];rcases h with h | h
   .rcases mem_cons.mp h with q | q
    .cases q;rwa[uf rfl hk]
    .exact .inl q
   .exact .inr h
theorem Wg:∀(names:List (Str×NameKind)) (h:Heap) (acc:List (Str×Addr)) (x:Str) (c:Addr),(cellsFrom h.objs.size names acc).lookup x⊂c->acc.lookup x⊂c\/(pushCells h names).IsCell c none
 | [],_,_,_,_,e=>.inl e
 | (y,k)::r,h,acc,x,c,e=>by
  unfold cellsFrom at e;unfold pushCells;split
  .rename_i hk;rw[vd hk]at e;rw[<-Heap.size_push h {cls:=.type "cell",data:=.cell none}]at e;rcases Wg r _ _ x c e with q | q
   .rw[lookup_cons]at q;cases hx:x==y with
    | true=>
     rw[hx]at q;cases q;rwa[.inr #[_,pushCells_keeps _ _ _ _ (Heap.get?_push_size _ rfl),rfl]]
    | false=>rw[hx]at q;rwa[.inl q]
   .exact .inr q
  .rename_i hk;rw[vc hk]at e;rwa[Wg r h acc x c e]
def Am{E:Nz}{Q:Env->Shared->Prop}
  (h:Q (newEnv scope s⁻¹ globals (cellsFrom (s⁻¹+1) scope.names cl) qual none .none (some env) builtinsNs) {s with heap:=pushCells (s.heap.push {cls:=.type "dict",data:=.dict #[]}) scope.names}) :
  wpAny M A (newFunctionEnv scope globals cl [] qual none .none (some env)) Q E s:=by
 simp only[newFunctionEnv,Option.isSome_some,if_true];erw[uh (wpAny_alloc ?_)];erw[uh (wpAny_layCells _ (λc a b=>by cases hkc:a==NameKind.cell<;>simp[hkc]) _ _ _ _ ?_)];rw[show({s with heap:=s.heap.push {cls:=.type "dict",data:=.dict #[]}}:Shared).heap.objs.size=s⁻¹+1 from Heap.size_push ..];rw[List.forIn_nil];rwa[uh (ug (ug h))]
noncomputable def mV(X:Cx)(scope:Scope)(ow:L8)(ci:L6)(C:Addr)(s₀:Shared)(H₀:Hp)(ex:L7)(pn:Ny):Cx:=
 {X with N:=ow++ci.map λj=>X.N.getD j "",s₀:=s₀,H₀:=H₀,env:=compEnvC scope (cellsFrom (C+1) scope.names (dj X.env scope.names [])) C X.env,outer:=X.stack,stack:=X.stack,ex:=ex,fn:=λx=>scope.names.lookup x==some .cell,pn:=pn,xe:=λq q=>False}
structure bY(X:Cx)(scope:Scope)(ow:L8)(ci:L6):Prop where
 kind:scope.kind = .function
 cell:∀y∈scope.names,y.2 = .cell->scope.names.lookup y.1⊂.cell
 names:∀y∈scope.names,y.2 = .local->scope.names.lookup y.1⊂.local
 free:∀y∈scope.names,y.2 = .free->X.env.kindOf y.1⊂.cell\/X.env.kindOf y.1⊂.free
 ix:∀j∈ci,j<X.N.length/\scope.names.lookup (X.N.getD j "")⊂.free
noncomputable def nX(dB:Scope)(N:L8)(scope:Scope)(ci:L6):Bool:=
 scope.kind == .function&&scope.names.all (λy=>y.2 != .cell||scope.names.lookup y.1==some .cell)&&scope.names.all (λy=>y.2 != .local||scope.names.lookup y.1==some .local) &&
 scope.names.all (λy=>y.2 != .free||dB.names.lookup y.1==some .cell||dB.names.lookup y.1==some .free)&&ci.all (λj=>decide (j<⇑N)&&scope.names.lookup (N.getD j "")==some .free)
def bY.of(a:Scope)(N:L8)(c:X.env.scope=a)(d:X.N=N)(h:nX a N scope ci=true):bY X scope ow ci:=by
 subst c d;unfold nX at h;simp only[Bool.and_eq_true,all_eq_true,Bool.or_eq_true,bne_iff_ne,ne_eq,beq_iff_eq,decide_eq_true_eq]at h;let⟨⟨⟨⟨f,g⟩,i⟩,k⟩,l⟩:=h;erw[f,λy b e=>(g y b).resolve_left λz=>z e,λy b e=>?_,λy b e=>?_,λj m=>l j m]
 .rcases i y b with z | z
  .exact uf e z
  .exact z
 .rcases k y b with(z | z) | z
  .exact uf e z
  .exact .inl z
  .exact .inr z
def jW{a:Hp}(N:L8)(e:X.N=N)(h:(ow++ci.map λj=>N.getD j "").Nodup):(mV X scope ow ci C s₀ a ex pn).N.Nodup:=by
 subst e;rwa[h]
noncomputable def nV(σ:St)(j:Nat):N3:=match σ[j]? with | some o=>o | none=>none
noncomputable def di(n:Nat)(ci:L6)(σ:St):St:=List.replicate n none++ci.map (nV σ)
def ou(wi:TI)(n:Nat)(ci:L6)(g:TG)(tf:TT)(te:TE):TE:=λσ H Q=>wi σ H λJ H1=>∃W:Nat->Nat->N2->Hp->Prop,(∃m,W 0 m [] H1)/\∀i m ys H,W i m ys H->
 (J.stop i H/\⇑ys<=sizeLine/\∀p,H p=none->Q (.ref p) (upd H p (.lst ys)))\/
 (J.go i H/\∃N:N2->Hp->Prop,(∀ys' H',N ys' H'->∃m',m'<m/\W (i+1) m' ys' H')/\∀x H',J.lI i H x H'->g x (di n ci σ) H' λσ2 H2=>tf σ2 H2 λb H3=>
  if b=true then te σ2 H3 λv H4=>⇑ys<sizeLine/\N (ys++[v]) H4 else N ys H3)
section
variable{X:Cx}{pins:Ny}{σ:St}{H:Hp}{s:Shared}{elt iter tg:Expr}{ifs:Nt}{scope:Scope}{pos:Pos}{ow:L8}{ci:L6}{g:TG}{tf:TT}{te:TE}
def bY.cells(S:bY X scope ow ci)(b:X.Ok):∀y∈scope.names,y.2 = .free->∃c,X.env.cells.lookup y.1⊂c:=λy a e=>b.has y.1 (S.free y a e)
def bY.sub(S:bY X scope ow ci)(a:X.Ok):∀x c,(dj X.env scope.names []).lookup x⊂c->X.env.cells.lookup x⊂c:=
 xE scope.names [] (S.cells a) λq q e=>by simp at e
def bY.Aj(S:bY X scope ow ci)(a:X.Ok)(h:(cellsFrom (C+1) scope.names (dj X.env scope.names [])).lookup x⊂c):C+1<=c\/X.env.cells.lookup x⊂c:=
 (KF _ _ _ _ _ h).imp id (S.sub a x c)
def LM(S:bY X scope ow ci)(I:Inv X pins σ H s)(f:s⁻¹<=C)
  (a:∀b∈ex,b<s⁻¹/\fM X pins H b):(mV X scope ow ci C s H ex pn).Ok where
 mod:=I.ok.mod
 kind:=S.kind
 glob:=I.ok.glob
 blt:=I.ok.blt
 above:=f
 inj:=AO scope.names (C+1) _ (λx c e=>by
   let⟨v,q⟩:=I.cell x c (S.sub I.ok x c e);rwa[Nat.lt_succ_of_le (vY (Nat.lt_of_lt_of_le q.lt f))]) λx y c i j=>I.ok.inj x y c (S.sub I.ok x c i) (S.sub I.ok y c j)
 has:=λx h=>by
  have n:∃k,(relabel scope X.env).names.lookup x⊂k/\(k = .cell\/k = .free):=by
   rcases h with h | h
   .exact#[_,h,.inl rfl]
   .exact#[_,h,.inr rfl]
  let⟨k,t,r⟩:=n;let⟨m,l,Z,e⟩:=Ze (env:=X.env) t;have g:m = .cell\/m = .free:=by
   rcases e with e | ⟨e,Z⟩
   .subst e;rwa[r]
   .exact .inr e
  rcases g with g | g
  .subst g;rwa[AN scope.names _ _ x l]
  .subst g;rwa[XE scope.names _ _ x (KG scope.names [] x l)]
 rO:=λx c h e=>vW (vW f (Nat.le_succ _)) (AQ scope.names (C+1) (C+1) _ x c (vb _) (.inl (PySem.mem_of_lookup (beq_iff_eq.mp h))) e)
 hd:=I.ok.hd
 frames:=I.ok.frames
 oH:=.inl rfl
 uW:=λb d=>#[vE (Nat.lt_of_lt_of_le (a b d).1 f),λx c e=>(S.Aj I.ok e).elim (λq z=>Nat.lt_irrefl _ (Nat.lt_of_lt_of_le (z▸(a b d).1) (vW f (vW (Nat.le_succ _) q)))) λq=>(a b d).2.2.2.2.2.1 x c q]
 bs:=I.bs
 nU:=vW I.ok.nU I.sz
 mD:=λb o e d=>by
  let⟨Z,Z,Z,p,Z⟩:=(a b d).2;rcases p with z | z
  .exact I.ok.mD b o e z
  .exact uf (Nat.lt_of_lt_of_le (vI e) (vW I.ok.nU z)) (Nat.lt_irrefl _)
 mZ:=λb d z=>by
  let⟨Z,i,j,Z⟩:=(a b d).2;rcases mem_cons.mp (I.iN b z)with e | e
  .exact i e
  .exact j e
 gA:=I.stack
 oS:=I.ie
def GI(S:bY X scope ow ci)(I:Inv X pins σ H s){h:Nw}(B:s⁻¹<=C)
  (D:∀b∈ex,b<s⁻¹/\fM X pins H b) (W:h₁.Ns C h) (k:∀b o,s.heap.get? b⊂o->h₁.get? b⊂o)
  (A:∀x c,(cellsFrom (C+1) scope.names (dj X.env scope.names [])).lookup x⊂c->(dj X.env scope.names []).lookup x⊂c\/h₁.IsCell c none) :
  Inv (mV X scope ow ci C s H ex (X.pn++pins)) [] (di ⇑ow ci σ) H {s with heap:=h₁,toks:=t₁}:=by
 have ok:=LM (pn:=X.pn++pins) S I B D;erw[ok,rfl,I.bare,Un.kept k,#[h,W,λi x v O f P=>?_],λx c e=>?_,I.cv.fresh B,λx c e=>(S.Aj I.ok e).elim (λq=>I.cv.fresh (vW B (vW (Nat.le_succ _) q))) (I.dM x c),λp Y=>?_,I.cv.kept k,?_]
 .have l:(ow++ci.map λj=>X.N.getD j "")[i]?⊂x:=O;unfold di at f;by_cases F:i<⇑ow
  .rw[vB #v[F],List.getElem?_replicate,vd F]at f;cases f
  .rw[vC #v[F],vv,length_replicate]at f;rw[vC ⋯,vv]at l;cases hj:ci[i-⇑ow]? with
   | none=>rw[hj]at f;cases f
   | some j=>
    rw[hj]at l f;let⟨U,E⟩:=S.ix j (vm hj);have w:X.N.getD j ""= x:=vL l;have Q:X.N[j]?⊂x:=by
     rw[<-w,vy,vz U];rfl
    have R:σ[j]?⊂(some v):=by
     have a:nV σ j⊂v:=vL f;unfold nV at a;cases q:σ[j]? with
     | none=>rw[q]at a;cases a
     | some o=>rw[q]at a;rw[show o⊂v from a]
    rw[w]at E;have g:(x,NameKind.free)∈scope.names:=PySem.mem_of_lookup E;have L:=S.free _ g rfl;let⟨m,_,G⟩:=I.loc;have K:tj X.env.scope x:=by
     rcases L with q | q
     .exact .inr (.inl q)
     .exact .inr (.inr q)
    let⟨u,r,Z⟩:=G j x v Q R K;erw[u,r,.inr #[?_,?_]]
    .rcases P with q | q | q
     .let⟨k',_,h2,h3⟩:=Ze (env:=X.env) q
      lia
     .exact .inl q
     .exact .inr q
    .rcases Z with⟨q,_⟩ | ⟨_,c,T,t⟩
     .have M:X.env.kindOf x⊂.local:=q;rcases L with z | z<;>(rw[z]at M;cases M)
     .let⟨N,y⟩:=KG (env:=X.env) scope.names [] x g;have e:=S.sub I.ok x N y;rw[T]at e;cases e;erw[c,?_,t.keeps k];show(cellsFrom (C+1) scope.names (dj X.env scope.names [])).lookup x⊂c;rw[AR scope.names _ _ x λz=>?_]
      .exact y
      .have:=S.cell _ z rfl;rw[E]at this;cases this
 .rcases A x c e with q | q
  .let⟨v,q⟩:=I.cell x c (S.sub I.ok x c q);rwa[v,q.keeps k]
  .exact#[_,q]
 .have J:p∈X.pn++pins:=by
   rcases vh.mp Y with z | z
   .exact z
   .cases z
  let⟨e,n,ne,nf,d⟩:=I.pin p J;erw[k _ _ e,n,vE (Nat.lt_of_lt_of_le (vI e) B),λz=>?_,d];rcases mem_cons.mp (I.iN p.1 z)with q | q
  .exact ne q
  .exact nf q
 .show(di ⇑ow ci σ).length=(ow++ci.map λj=>X.N.getD j "").length;simp[di]
def Inv.forget{S':St}(I:Inv X pins S' H s)(n:Nat)(ci:L6)(a:St)(c:⇑(di n ci a)=X.N.length)(h:∀i v,n<=i->(di n ci a)[i]?⊂(some v)->S'[i]?⊂(some v)):Inv X pins (di n ci a) H s:=
 I.weak (by rw[c,I.len]) λi v e=>by
  by_cases b:n<=i
  .exact h i v b e
  .unfold di at e;rw[vB #v[b],List.getElem?_replicate,vd ⋯]at e;cases e
def gN(n:Nat)(g:TG):Prop:=∀x σ H (Q:St->Hp->Prop),g x σ H Q->g x σ H λσ2 H2=>(∀(i:Nat) v,n<=i->σ[i]?⊂(some v)->σ2[i]?⊂(some v))/\Q σ2 H2
def JP(h:i<n):gN n (cn i):=λx b H Q q=>#[λj v a e=>by rw[List.getElem?_set_ne ⋯];rwa[e],q]
def YL{K:cp}{n i j:Nat}(hi:i<n)(p:j<n):gN n (m6 K 2 (dN (cn i) (dN (cn j) m5))):=λx t H Q q=>by
 let⟨a,o,b,c,d,v,r,f,m,l,g,h,q⟩:=q;erw[a,o,b,c,d,v,r,f,m,l,g,h,λk u s e=>?_,q];rw[List.getElem?_set_ne ⋯,List.getElem?_set_ne ⋯];rwa[e]
def Wh{E:Nz}{tn:Nat->Heap->Prop}{RR:Value->Addr->Result->Shared->Prop}(hc:X.calm=true)(S:bY X scope ow ci)(hk:gN ⇑ow g)
  (a:∀C F y ex pn,PG (mV X scope ow ci C F y ex pn) tg g/\PF (mV X scope ow ci C F y ex pn) ifs tf/\PE (mV X scope ow ci C F y ex pn) elt te)
  (I:Inv X pins σ H s) (T:Turn X.prog X.w X.K tg J fp it tn) (st:tn 0 s.heap) (hf:∀b∈fp,fM X pins H b) (Z:N2->Hp->Prop)
  (W:Nat->Nat->N2->Hp->Prop) (w0:∃m,W 0 m [] H)
  (aN:∀i m ys H,W i m ys H->(J.stop i H/\⇑ys<=sizeLine/\Z ys H)\/
   (J.go i H/\∃N:N2->Hp->Prop,(∀aO H',N aO H'->∃m',m'<m/\W (i+1) m' aO H')/\∀x H',J.lI i H x H'->g x (di ⇑ow ci σ) H' λaP H2=>tf aP H2 λb H3=>
    if b=true then te aP H3 λv H4=>⇑ys<sizeLine/\N (ys++[v]) H4 else N ys H3))
  (aW:∀D C s' H' m ys,Inv X pins σ (upd H' D (.lst ys)) s'->H' D=none->Z ys H'->s'.heap.Ns C m->s⁻¹<=C->C≠D->H' C=none->RR (.ref D) C (.ok .next) s') :
  wpAny (model X.prog X.w) X.A (newList []) (λacc aL=>wpAny (model X.prog X.w) X.A (newFunctionEnv scope X.env.globals (dj X.env scope.names []) [] X.env.qual none .none (some X.env)) (λa6 aM=>
   codeAny (model X.prog X.w) X.A (.compStart (.ListComp elt [#[tg,iter,ifs,0]] scope pos) 0 (.ref it) acc {a6 with scope:=relabel scope X.env}) (RR acc a6.locals) aM) E aL) E s:=by
 erw[wpAny_newObj_type (Am ?_)];dsimp only;generalize O:({s with heap:=s.heap.push {cls:=.type "list",dict:=none,data:=.seq ([]:L9).toArray}}:Shared)=s3;have e3:s3.heap=s.heap.push {cls:=.type "list",dict:=none,data:=.seq ([]:L9).toArray}:=by rw[<-O]
 rw[<-e3];generalize ad:pushCells (s3.heap.push {cls:=.type "dict",data:=.dict #[]}) scope.names=h₁;have k3:∀b o,s.heap.get? b⊂o->s3.heap.get? b⊂o:=λb o e=>by rw[e3];rwa[vJ _ e]
 have hsz:s3⁻¹=s⁻¹+1:=by rw[e3,Heap.size_push]
 have I3:Inv X pins σ H s3:=by rw[<-O];rwa[I.kept (t':=s.toks) λb o e=>vJ _ e]
 have b2:s3.heap.get? s⁻¹=some {cls:=.type "list",dict:=none,data:=.seq ([]:L9).toArray}:=by rw[e3];rwa[Heap.get?_push_size _ rfl]
 generalize ac:s⁻¹=D at *;generalize l:s3⁻¹=C at *;have A:D<C:=⋯
 have aq:H D=none:=I.cv.fresh (Nat.le_of_eq ac);have aX:fM X pins H D:=I.fY (Nat.le_of_eq ac) aq;have ae:∀(b:Addr) o,s.heap.get? b⊂o->b<D:=λb o e=>by rw[<-ac];rwa[vI e]
 have bb:∀(b:Addr) o,s3.heap.get? b⊂o->b<C:=λb o e=>by rw[<-l];rwa[vI e]
 have a8:∀b∈fp,b<D:=λb a=>by
  let⟨o,e,_⟩:=T.obj 0 _ st b a;rwa[ae b o e]
 have G:∀b∈D::fp,b<s3⁻¹/\fM X pins H b:=λb a=>by
  rw[l];rcases mem_cons.mp a with rfl | a
  .exact#[A,aX]
  .exact#[vZ (a8 b a) A,hf b a]
 have kk:∀b o,s3.heap.get? b⊂o->h₁.get? b⊂o:=λb o e=>by rw[<-ad];rwa[pushCells_keeps _ _ b o (vJ _ e)]
 have M:h₁.Ns C λ_=>none:=by rw[<-ad,<-l];rwa[(Heap.Ns.new s3.heap (.type "dict")).keeps (pushCells_keeps _ _)]
 have ax:∀x c,(cellsFrom (C+1) scope.names (dj X.env scope.names [])).lookup x⊂c->(dj X.env scope.names []).lookup x⊂c\/h₁.IsCell c none:=λx c e=>by
  rw[<-ad];erw[Wg scope.names _ _ x c ?_];rw[Heap.size_push,l];rwa[e]
 let⟨hg,au,he⟩:=a C s3 H (D::fp) (X.pn++pins);generalize w:mV X scope ow ci C s3 H (D::fp) (X.pn++pins)=Y at hg au he;have f:Y.prog=X.prog:=by rw[<-w];rfl
 have Yw:Y.w=X.w:=by rw[<-w];rfl
 have YK:Y.K=X.K:=by rw[<-w];rfl
 have YA:Y.A=X.A:=by rw[<-w];rfl
 have Yc:Y.calm=true:=by rw[<-w];rwa[hc]
 have h:Y.env=compEnvC scope (cellsFrom (C+1) scope.names (dj X.env scope.names [])) C X.env:=by rw[<-w];rfl
 have aa:Y.xe=λ_ _=>False:=by rw[<-w];rfl
 have am:Y.fs=fc X.stack:=by rw[<-w];rfl
 have al:Y.ex=D::fp:=by rw[<-w];rfl
 have aU:Y.pn=X.pn++pins:=by rw[<-w];rfl
 have Ys:Y.s₀=s3:=by rw[<-w];rfl
 have YH:Y.H₀=H:=by rw[<-w];rfl
 have YN:⇑(di ⇑ow ci σ)=Y.N.length:=by rw[<-w];show(di ⇑ow ci σ).length=(ow++ci.map λj=>X.N.getD j "").length;simp[di]
 have af:∀b∈D::fp,b≠Y.env.locals/\b∉Y.fs/\b∈Y.ex/\(∀x c,Y.env.cells.lookup x⊂c->c≠b)/\∀p∈Y.pn,p.1≠b:=λb a=>by
  let⟨h0,h1,h2,h3,h4,h5⟩:=(G b a).2;erw[by rw[h];rwa[vE (l▸(G b a).1)],λz=>?_,by rw[al];rwa[a],λx c e=>?_,by rw[aU];rwa[h5]]
  .rw[am]at z;rcases mem_cons.mp (I.iN b z)with q | q
   .exact h1 q
   .exact h2 q
  .rw[h]at e;rcases S.Aj I.ok e with q | q
   .exact λz=>Nat.lt_irrefl _ (Nat.lt_of_lt_of_le (l▸(G b a).1) (vW (Nat.le_succ _) (z▸q)))
   .exact h4 x c q
 have aD:D∉fp:=λz=>Nat.lt_irrefl _ (a8 D z)
 have aB:∀s4:Shared,Inv Y [] (di ⇑ow ci σ) H s4->tn 0 s4.heap->s4.heap.PlainList D #[]->
   codeAny (model X.prog X.w) X.A (.compLoop (.ListComp elt [#[tg,iter,ifs,0]] scope pos) 0 (.ref it) (.ref D) (compEnvC scope (cellsFrom (C+1) scope.names (dj X.env scope.names [])) C X.env)) (RR (.ref D) C) s4:=by
  intro s4 J4 Q ag;let⟨m0,w0⟩:=w0;refine mX (λn s'=>∃i ys k H',Inv Y [] (di ⇑ow ci σ) H' s'/\tn i s'.heap/\(∀b∈fp,H' b=none)/\H' D=none/\s'.heap.PlainList D k/\Vals ys k.toList/\W i n ys H') ?_ m0
   #[0,[],#[],H,J4,Q,λb a=>(hf b a).1,aq,ag,.nil,w0]
  rintro n s5 ⟨i,ys,k,U,J5,aI,ao,t,⟨aF,b7⟩,R,w5⟩;have vl:⇑ys=k.size:=by have:=⇑R;simpa using this
  have mE:∀{H':Hp} {s':Shared} {ai:St},Inv Y [] ai H' s'->H' D=none->∀{o:Obj},s'.heap.get? D⊂o->(∀v,o.data≠.cell v)->Inv Y [(D,o)] ai H' s':=λ{H' s' ai} K hD o e d=>
   K.pins_of λp hp=>by
    have ep:p=(D,o):=by simpa using hp
    subst ep;let⟨a1,a2,_⟩:=af D vq;rwa[e,hD,a1,a2,d]
  have P5:=mE J5 t b7 (λv z=>by cases z);have ab:∀{H':Hp},(∀b∈fp,H' b=none)->∀{o:Obj},∀b∈fp,fM Y [(D,o)] H' b:=λ{H'} hn {o} b a=>by
   let⟨a1,a2,a3,a4,a5⟩:=af b (vp _ a);erw[hn b a,a1,a2,.inl a3,a4,λp hp=>?_];rcases vh.mp hp with q | q
   .exact a5 p q
   .have ep:p=(D,o):=by simpa using q
    subst ep;rwa[λz=>aD (by have z':D=b:=z;rw[z'];rwa[a])]
  rcases aN i n ys U w5 with⟨aK,aA,z5⟩ | ⟨go,NN,ar,aJ⟩
  .have d:=T.done Y f Yw YK Yc i [(D,_)] s5 _ U (λ_ _=>False) P5 (ab ao) aI aK;rw[YA]at d;erw[cC d λr s6 z_=>?_];obtain⟨hr,J6⟩:=z_
   subst hr;have D6:=(J6.pin (D,_) (mem_append_right _ vq)).1;let⟨mC,av,_⟩:=J6.loc;rw[h]at av;have aw:s6.heap.Ns C mC:=av;have b1:U C=none:=by have:=J6.free;rw[h]at this;rwa[this]
   erw[aW D C s6 U mC ys ?_ t z5 aw (vY A) (vO A) b1];have B:=J6.base;rw[am,al,YH,Ys]at B;have aC:∀b o,s.heap.get? b⊂o->b≠D/\b≠C:=λb o e=>#[vE (ae b o e),vE (vZ (ae b o e) A)]
   have P:∀b o,s.heap.get? b⊂o->b∉fp->b∉D::fp:=λb o e a z=>by
    rcases mem_cons.mp z with q | q
    .exact(aC b o e).1 q
    .exact a q
   have uN:Un (fc X.stack) fp H (upd U D (.lst ys)) s.heap s6.heap:=by
    erw[λb o e n a hx=>B.keep b o (k3 b o e) n a (P b o e hx),λb o e n a hx=>B.slot b o (k3 b o e) n a (P b o e hx),λb o e n hx=>?_,λb o e hx=>B.there b o (k3 b o e) (P b o e hx),λb xs q=>?_,λb o u q=>?_,λb ps q=>?_]
    .rw[jh (aC b o e).1];rwa[B.free b o (k3 b o e) n (P b o e hx)]
    .rw[jh (je (B.dF b xs q) t)];rwa[B.dF b xs q]
    .rw[jh (je (B.gS b o u q) t)];rwa[B.gS b o u q]
    .let⟨mo,q'⟩:=B.iO b ps q;rwa[mo,by rw[jh (je q' t)];rwa[q']]
   have ay:eX X.prog X.w U s6.heap:=by rw[<-f,<-Yw];rwa[J6.cv]
   have az:eX X.prog X.w (upd U D (.lst ys)) s6.heap:=λb u e=>by
    by_cases as:b=D
    .subst as;rw[jA]at e;cases e;rwa[aA,k.toList,_,R,#v[D6]]
    .rw[jh as]at e;rwa[(ay b u e).hW (λc v _ q=>q) (λc q=>by rw[jh (je q t)];rwa[q]) λc xs q=>by rw[jh (je q t)];rwa[q]]
   erw[I.pJ (by rw[J6.os,Ys,<-O]) uN az J6.bare λb a=>?_]
   let⟨h0,h1,h2,h3,h4,h5⟩:=hf b a;rwa[h3,h1,h4,h5]
  .have d:=T.item Y f Yw YK Yc i [(D,_)] s5 _ U (λ_ _=>False) P5 (ab ao) aI go;rw[YA]at d;erw[cC d λr s6 z_=>?_];obtain⟨u,hr,h6⟩:=z_
   subst hr;erw[cC h6 λ_ s7 z_=>?_];obtain⟨x,H7,J7,r7,y7,ah,aY⟩:=z_
   have aR:=J7.pinned (ab aY) (T.obj _ _ ah);have h8:=hg _ s7 _ H7 x u _ aR r7 (hk _ _ _ _ (aJ x H7 y7));rw[f,Yw,YA,h,aa]at h8;erw[cC h8 λ_ s8 z_=>?_];obtain⟨aj,H8,J8,b5,q8⟩:=z_
   have h9:=au _ s8 aj H8 _ J8 q8;rw[f,Yw,YA,h,aa]at h9;erw[cC h9 λb s9 z_=>?_];obtain⟨H9,J9,q9⟩:=z_
   have a0:∀{H':Hp} {s':Shared},Inv Y ([(D,({cls:=.type "list",data:=.seq k aF}:Obj))]++iy fp s7.heap) aj H' s'->Inv Y [] (di ⇑ow ci σ) H' s'/\tn (i+1) s'.heap/\(∀b∈fp,H' b=none)/\H' D=none/\s'.heap.get? D=some {cls:=.type "list",data:=.seq k aF}:=λ{H' s'} K=>by
    have pD:=K.pin (D,_) (mem_append_right _ (mem_append_left _ vq));erw[(K.pins_of (pins':=[]) (by simp)).forget _ _ _ YN (λj v hj e=>b5 j v hj e),T.keep _ _ _ ah λb a o e=>(K.pin (b,o) (mem_append_right _ (mem_append_right _ (yp a e)))).1,λb a=>?_,pD.2.1,pD.1];let⟨o,e,_⟩:=T.obj _ _ ah b a;rwa[(K.pin (b,o) (mem_append_right _ (mem_append_right _ (yp a e)))).2.1]
   cases b with
   | false=>
    rw[vc vF]at q9|-;let⟨m',hm,w9⟩:=ar _ _ q9;let⟨K9,b9,aZ,b3,e9⟩:=a0 J9;rwa[m',hm,i+1,ys,k,H9,K9,b9,aZ,b3,#[_,e9],R,w9]
   | true=>
    rw[vd rfl]at q9|-;have ap:=he _ s9 aj H9 _ J9 q9;rw[f,Yw,YA,h,aa]at ap;erw[cC ap λz aG z_=>?_];obtain⟨v,ak,aQ,b8,b4,b6⟩:=z_
    let⟨m',hm,ba⟩:=ar _ _ b6;let⟨aS,aH,an,a7,aV⟩:=a0 aQ;erw[wpAny_list_append_plain (hsz:=by rw[<-vl];rwa[vY b4]) #[_,aV] λb0 aE a9=>?_]
    let⟨a1,a2,a3,a4,a5⟩:=af D vq;have aT:Inv Y [] (di ⇑ow ci σ) ak {aG with heap:=b0}:=aS.turned (t':=aG.toks) (λb o a e=>(a9.2 b a).trans e) a7 a1 (.inl a3) a4 (λp hp=>a5 p #v[hp]);erw[m',hm,i+1,ys++[v],k.push z,ak,aT,T.keep _ _ _ aH λb a o e=>(a9.2 b (λq=>aD (q▸a))).trans e,an,a7,aE,?_,ba];rw[Array.toList_push];rwa[R.append (.cons b8 .nil)]
 have J4:Inv Y [] (di ⇑ow ci σ) H {s3 with heap:=h₁}:=by
  rw[<-w];rwa[GI (t₁:=s3.toks) S I3 (Nat.le_of_eq l) G M kk ax]
 have Q:tn 0 h₁:=T.keep _ _ _ st λb _ o e=>kk b o (k3 b o e)
 have ag:h₁.PlainList D #[]:=#[_,kk _ _ b2]
 have L:=aB _ J4 Q ag;subst O;rwa[codeAny_compStart_list L (T.self _ 0 _ _ _ Q L)]
variable{wi:TI}
def Ju(P:X.calm=true)(S:bY X scope ow ci)(R:gN ⇑ow g)(hi:PI X tg iter wi)
  (n:∀C c a ex pn,PG (mV X scope ow ci C c a ex pn) tg g/\PF (mV X scope ow ci C c a ex pn) ifs tf/\PE (mV X scope ow ci C c a ex pn) elt te)
  (Y:∀x,foldedSetIterable iter X.env x=pure x:=by intro Z;rfl):PE X (.ListComp elt [#[tg,iter,ifs,0]] scope pos) (ou wi ⇑ow ci g tf te):=by
 intro d s u H Q I h;rw[eval_ListComp];erw[wpAny_comprehension_free (use:=none) rfl Y (kC (S.cells I.ok)) S.kind S.names (cC (hi d s u H _ I h) λv s1 L=>cC L λZ s2 M=>?_)];let⟨it,fp,tn,J,H2,e,t,T,r,A,W,w0,f⟩:=M;subst e;erw[Wh (RR:=λj C=>compPost (model X.prog X.w) X.A X.xe none (EP X d u Q) j C) P S R n t T r A (λi H=>∀p,H p=none->Q (.ref p) (upd H p (.lst i))) W w0 f λD C s' H' m i K O z U N l k=>?_]
 erw[m,U,λh' q=>#[.ref D,upd H' D (.lst i),?_,rfl,z D O]];let⟨w,y,B,E,F,G⟩:=t.fY (H':=upd H' D (.lst i)) N (by rw[jh l];rwa[k]);rwa[K.turned (t':=s'.toks) (λb o n e=>(q.2 b n).trans e) w y E F G]
def Kb(hc:X.calm=true)(S:bY X scope ow ci)(hk:gN ⇑ow g)(hN:X.N.Nodup)(A:X.N[i]?⊂x)(hx:Loc X.env.scope x)(hi:PI X tg iter wi)
  (t:∀C f c ex pn,PG (mV X scope ow ci C f c ex pn) tg g/\PF (mV X scope ow ci C f c ex pn) ifs tf/\PE (mV X scope ow ci C f c ex pn) elt te)
  (y:swapsWith (.ListComp elt [#[tg,iter,ifs,0]] scope pos) (some (.Name x px)) spos.line X.env=pure true:=by rfl)
  (hf:X.fn x=true\/X.env.scope.names.lookup x⊂.local:=by and_intros)
  (hs:∀x,foldedSetIterable iter X.env x=pure x:=by intro _;rfl):PS X (.Assign [.Name x px] (.ListComp elt [#[tg,iter,ifs,0]] scope pos) spos) (om (ou wi ⇑ow ci g tf te) (cn i)):=by
 intro d s M H D I h;rw[exec_Assign_Name_used _ _ _ _ y];erw[uh (wpAny_standAt (uh ?_))];show wpAny _ X.A (do let _ <-comprehension (.ListComp elt [#[tg,iter,ifs,0]] scope pos) scope X.env _ (newList []) false (eval iter X.env) (some (assign (.Name x px) X.env))) _ _ s;refine uh (wpAny_mono (wpAny_comprehension_free (use:=some (assign (.Name x px) X.env)) (Q:=λ_ j=>SP X d D .next j) rfl hs (kC (S.cells I.ok)) S.kind S.names
  (cC (hi d s M H _ I h) λv s1 h1=>cC h1 λa0 s2 h2=>?_)) (λ_ j hq=>ug (ug hq)) λ_ _ e=>e)
 let⟨it,fp,tn,J,H2,e,F,T,B,R,W,w0,k⟩:=h2;subst e;refine Wh (RR:=λl C=>compPost (model X.prog X.w) X.A X.xe (some (assign (.Name x px) X.env)) (λ_ j=>SP X d D .next j) l C) hc S hk t F T B R
  (λE H=>∀p,H p=none->cn i (.ref p) M (upd H p (.lst E)) D.nx) W w0 k λP C j H' m E K hD z hn hC r n=>?_
 let⟨O,G,U,Y,L,Z⟩:=F.fY (H':=upd H' P (.lst E)) hC (by rw[jh r];rwa[n]);show wpAny _ X.A (assign (.Name x px) X.env (.ref P)) _ _ j;erw[wpAny_assign_Name (Xk K hN A hx (v:=.ref P) rfl (λs3 N z_=>?_) hf)];let⟨a,w,ha⟩:=z_;erw[m,hn.sameBut w ?_,λh' u=>?_]
 .rcases ha with q | q
  .rw[q];rwa[G]
  .exact λz=>L x a q z.symm
 .exact#[_,_,N.turned (t':=s3.toks) (λb o t e=>(u.2 b t).trans e) O G Y L Z,z P hD]
def yg{lo:Int}{n k:Nat}{ci:L6}{g:TG}{q:TT}{o:TE}{r:St}{H:Hp}{Z:Addr->N2->Hp->Prop}(c:Nat->N2->Hp->Prop)(s:c 0 [] H)
  (u:∀i ys H,i<n->c i ys H->g (.int (lo+i)) (di k ci r) H λa H2=>q a H2 λb h=>if b=true then o a h λv j=>⇑ys<sizeLine/\c (i+1) (ys++[v]) j else c (i+1) ys h)
  (t:∀ys H,c n ys H->⇑ys<=sizeLine/\∀p,H p=none->Z p ys H) :
  ∃W:Nat->Nat->N2->Hp->Prop,(∃m,W 0 m [] H)/\∀i m ys H,W i m ys H->
   ((nA lo n).stop i H/\⇑ys<=sizeLine/\∀p,H p=none->Z p ys H)\/
   ((nA lo n).go i H/\∃N:N2->Hp->Prop,(∀f H',N f H'->∃l,l<m/\W (i+1) l f H')/\∀x H',(nA lo n).lI i H x H'->g x (di k ci r) H' λa H2=>q a H2 λb h=>
    if b=true then o a h λv j=>⇑ys<sizeLine/\N (ys++[v]) j else N ys h):=by
 erw[λi m ys H=>m=n-i/\i<=n/\c i ys H,#[n,by simp,va _,s],?_];rintro i m ys H ⟨rfl,z,p⟩;by_cases d:i<n
 .refine .inr #[d,c (i+1),λf H' w=>#[n-(i+1),⋯,rfl,d,w],λx H' y=>?_];let⟨e,y⟩:=y;subst e y;rwa[u i ys _ d p]
 .have e:i=n:=⋯
  subst e;rwa[.inl #[vb _,t ys H p]]
def Jn{K:cp}{a:Addr}{xs:N2}{k:Nat}{ci:L6}{g:TG}{r:TT}{o:TE}{s:St}{H:Hp}{Z:Addr->N2->Hp->Prop}(d:Nat->N2->Hp->Prop)(t:d 0 [] H)(z:∀i ys H,i<=⇑xs->d i ys H->bV K H a xs)
  (A:∀i x ys H,xs[i]?⊂x->d i ys H->g x (di k ci s) H λc H2=>r c H2 λb h=>if b=true then o c h λv l=>⇑ys<sizeLine/\d (i+1) (ys++[v]) l else d (i+1) ys h)
  (u:∀ys H,d ⇑xs ys H->⇑ys<=sizeLine/\∀p,H p=none->Z p ys H) :
  ∃W:Nat->Nat->N2->Hp->Prop,(∃m,W 0 m [] H)/\∀i m ys H,W i m ys H->
   ((nJ K a).stop i H/\⇑ys<=sizeLine/\∀p,H p=none->Z p ys H)\/
   ((nJ K a).go i H/\∃N:N2->Hp->Prop,(∀f H',N f H'->∃n,n<m/\W (i+1) n f H')/\∀x H',(nJ K a).lI i H x H'->g x (di k ci s) H' λc H2=>r c H2 λb h=>
    if b=true then o c h λv l=>⇑ys<sizeLine/\N (ys++[v]) l else N ys h):=by
 erw[λi m ys H=>m=⇑xs-i/\i<=⇑xs/\d i ys H,#[⇑xs,by simp,va _,t],?_];rintro i m ys H ⟨rfl,w,p⟩;have q:=z i ys H w p;by_cases j:i<⇑xs
 .refine .inr #[#[xs,xs[i],q,by simp[j]],d (i+1),λf H' B=>#[⇑xs-(i+1),⋯,rfl,j,B],λx H' y=>?_];let⟨e,y⟩:=y;subst e;rwa[A i x ys _ (y xs q) p]
 .have e:i=⇑xs:=⋯
  subst e;rwa[.inl #[#[xs,q,vb _],u ys H p]]
end
def DI:(10:Nat)^250<2^831:=by decide +kernel
def Cy(a : -10^250<=x)(b:x<=10^250):Builtin.Int.intBits x<=1048576:=by
 erw[vW (PySem.intBits_le_iff.mpr ?_:Builtin.Int.intBits x<=831) nofun];have:x.natAbs<=10^250:=⋯
 rwa[vD this DI]
def tT(a : -10^250<=x)(b:x<=10^250)(c : -10^250<=y)(d:y<=10^250):IntMulOk x y:=.of_bits (Cy a b) (Cy c d)
section
variable{X:Cx}
def Q7:fH X (binaryOp .Mult) (rI IntMulOk λi j=>.int (i*j)):=wh λZ Z Z Z Z Z Z a q=>mul_int q a
def pz(_ j:Int):Prop:=0<j/\j<=10^250
def tq(a:0<j)(b:j<=10^250):pz i j:=#[a,b]
def Jg:fH X (binaryOp .FloorDiv) (rI pz λi j=>.int (i/j)):=wh λi j Z Z Z Z Z a q=>by
 have b:(0:Int)<j:=a.1;have c:j<=10^250:=a.2;erw[floordiv_int ⋯ ?_ (.inl (PyProof.noPylong_of_log2 ?_))]
 .rw[Int.fdiv_eq_ediv_of_nonneg _ ⋯];rwa[q]
 .have e:j.natAbs<=10^250:=⋯
  have g:j.natAbs.log2<831:=(Nat.log2_lt ⋯).mpr (vD e DI);lia
def Yb:c8 X (.builtin "isinstance") (λxs H Q=>∃x T t b,xs=[x,.ty T]/\gO X.K H x t/\PySem.W.kitOne X.K t (.type T)⊂b/\Q (.bl b) H):=by
 intro a s j H xs i Q I r h;let⟨x,T,t,b,rfl,ty,e,q⟩:=h;let⟨u,f,rfl,d,c⟩:=vals2 r;cases(show f=Value.type T from c);rwa[Gh I d ty e λg=>#[.bl b,H,I.tok _,rfl,q]]
def Hv{E:Nz}{Q:Nz}(y:A.handled=none)(d:s.heap.IsList l (intItems xs))
  (h:∀h' tk t',(∀b o,s.heap.get? b⊂o->h'.get? b⊂o)->Q (.int (preSum (numAt xs) xs.size) t') {s with heap:=h',toks:=tk}) :
  wpAny (model prog w) A (call (.builtin "sum") [.ref l]) Q E s:=by
 let⟨o,m,B,n,C⟩:=id d;have f:l≠s⁻¹:=vE (vI m);have g:(intItems xs).size=xs.size:=by simp[intItems]
 have W:=(Walks.list (prog:=prog) (w:=w) (A:=A.in1) y s⁻¹ l f (intItems xs)).toS;rw[g]at W;erw[call_sum_walkAnyS (wpAny_pyIter_list d ?_)];erw[s⁻¹,_,_,_,_,_,_,numAt xs,rfl,W,#[#[_,Heap.get?_push_size _ rfl,rfl,rfl],d.at λo e=>vJ _ e],λb a=>?_,λi v x=>intItems_at x,λz t' c=>?_]
 .rcases mem_cons.mp a with rfl | a
  .simp_all
  .obtain rfl:=vo.mp a;rwa[vI (vJ _ m)]
 .let⟨h',u,p,k,j⟩:=z;have q:u=s.gens:=c.gens;have r:p=s.drawn:=c.drawn;have t:j=s.os:=c.os;subst q r t;rwa[h h' k t' λb o e=>c.heap b o (λa=>uf (vI e) ((vo.mp a)▸Nat.lt_irrefl _)) (vJ _ e)]
def KE(g:X.calm=true):c8 X (.builtin "sum") (λxs H Q=>∃(p:Addr) (b:L5),xs=[.ref p]/\bV X.K H p (b.map V.int)/\Q (.int b.sum) H):=by
 intro f s z H xs x Q I r h;let⟨p,b,rfl,j,q⟩:=h;let⟨u,rfl,n⟩:=vals1 r;cases n;let⟨a,m,l,t⟩:=I.list j;have d:IntsAre a b:=intsAre_of m;let⟨y,k⟩:=d.allInts.items;have c:numsOf a.toArray.toList=b:=by rw[show a.toArray.toList=a from rfl,d.numsOf]
 have e:=l.isList;rw[k]at e c;rw[nums_intItems]at c;erw[Hv (I.ok.hd g) e λo w v i=>?_]
 rw[preSum_eq,take_of_length_le (by simp),c];rwa[.int b.sum,H,I.kept i,#[_,rfl],q]
end
end L2
namespace Att
open PySem PySem.W PySem.Calls PyProof.Rows
theorem wk:∀(a:L5) (x:Int),x∈a->Builtin.Int.intBits x<=WData.weightAll (a.map WData.int)
 | [],_,h=>by cases h
 | n::r,x,h=>by
  show _<=WData.weight (.int n)+1+WData.weightAll (r.map WData.int);rcases mem_cons.mp h with e | h
  .subst e;have e:Builtin.Int.intBits x=WData.weight (.int x):=by
    unfold Builtin.Int.intBits WData.weight;rfl
   lia
  .have:=wk r x h;lia
def Xy{l:OpenLaw}{n:Nat}{q:Program}{c:L8}{XP:(Nw)->Heap->Prop}{D:World->Heap->Prop}{d:DefRec}
  (Q:l.most⊂n) (y:d.params.defaults=[])
  (k:∀(w:World) (e b:Shared) (mg B:Nw) (fa:Addr) (o:Obj) (C u h:Value) (a:Addr) (vs:L9) (g:L5),
   Ground q c [] XP w e mg B b.heap->D w b.heap->
   b.heap.get? fa⊂o->o.data = .func (docDef d.name d.params d.body d.scope C u h)->b.heap.CodeRec u d.name->mg d.name=↥fa->
   b.heap.get? a=some {cls:=.type "list",data:=.seq vs.toArray}->IntsAre vs g->⇑g<=n->(∀x∈g,Builtin.Int.intBits x<=1048576)->b.gens = #[]->
   codeAny (model l.prog w) callerA (.call (.ref fa) #[[.ref a],[]]) (λr s'=>r = .ok (.ret (.bool true))/\OldK b.heap s'.heap/\s'.os=b.os/\AllBare s'.gens) b) :
  WalkO q c XP D l.row.toRowW d [] (λf vs=>PySem.call f vs):=by
 intro w e b mg B G Y fa o C u h I kV R M v F z N E H X t m T A O;obtain rfl:I = .none:=Dflts.none F y;obtain rfl:kV = .none:=Dflts.noKw F;let⟨a,vs,g,rfl,rfl,s,j,p⟩:=Hm Q t A;have i:∀x∈g,Builtin.Int.intBits x<=1048576:=by
  have U:(WData.list (g.map WData.int)).weight<=2^20:=(layableW_iff.mp (layW_cons m).1).2.2;intro x W;rwa[vW (wk g x W) U]
 erw[enter_call (codeAny_mono (k w e b mg B fa o C u h a vs g G Y R (fd_plain M) v z s j p i N) λr s' S=>?_)];let⟨rfl,J,K,L⟩:=S;rwa[.inl #[.bool true,.bool true,[],rfl,λZ=>rfl,.bool true,GU l _,λZ=>#[List.Pairwise.nil,λZ P=>(nomatch P)]],J,K,L]
end Att
namespace L2
open PySem PySem.Spec PyProof.Rows
def Lh{l:PySem.W.OpenLaw}{n k:Nat}{q:Program}{i:L8}{XP:(Nw)->Heap->Prop}{D:World->Heap->Prop}{d:DefRec}{K:Params->cp}{CX:nz}{sp:cp->Sp}{x:Str}
  (T:l.most⊂n) (z:n<=sizeLine) (t:d.params.defaults=[]) (U:dg k callerA)
  (O:∀(w:World) (h:Heap),D w h->(K w.params).In h)
  (F:∀(w:World) (mg:Nw) (fa:Addr) (h:Heap),(K w.params).In h->h.Ns mainGlobals mg->mg d.name=↥fa->
   ∃fd:FuncData,(∀(s:Shared) (u:Value),BindsTo s fd #[[u],[]] [(x,u)])/\
    ∀base:Heap,(K w.params).In base->base.Ns mainGlobals mg->dP l.prog w (K w.params) mg base CX k fa fd [x] (sp (K w.params)))
  (B:∀(K:cp) (H:Hp) (a:Addr) (m:L5),⇑m<=n->(∀x∈m,Builtin.Int.intBits x<=1048576)->rH H->bV K H a (m.map V.int)->sp K [.ref a] H (λv _=>v = .bl true) λ_ _ _=>False)
  (r:∀(H:Hp) (s:Shared) (e:Value) (s':Shared),CX [] H s (λ_ _ _=>False) e s'->False) :
  PySem.W.WalkO q i XP D l.row.toRowW d [] (λf vs=>PySem.call f vs):=by
 erw[Att.Xy T t λw I p mg mb fa o pm W J a vs m G Y Z X R y j g b c S=>?_]
 have C:=O w _ Y;let⟨fd,P,L⟩:=F w mg fa _ C G.T.g y;rwa[HE C G.T.g G.T.b G.T.builtins G.T.nolimit S j g (vW b z) U L P (λH M N=>B _ H a m b c M N) λH e s'=>r H p e s']
def SP.nx{R:St->Hp->Prop}(a:∀S' H',R S' H'->D.nx S' H')(h:SP X pins {D with nx:=R} f s):SP X pins D f s:=by
 cases f with
 | next=>let⟨S',H',I,q⟩:=h;rwa[S',H',I,a _ _ q]
 | brk=>rwa[h]
 | cont=>rwa[h]
 | ret u=>rwa[h]
def BU(c:TT)(t u:TS):TS:=λD σ H=>∃R:St->Hp->Prop,(∀S' H',R S' H'->D.nx S' H')/\sh c t u {D with nx:=R} σ H
def qJ(j:PT X c tc)(g:lu X a t)(i:lu X b u):PS X (.If c a b pos) (BU tc t u):=by
 intro d s k H D I h;let⟨R,e,h⟩:=h;rwa[cC (jO j g i d s k H _ I h) λf l q=>q.nx e]
open PySem
def Jf:bootBuiltins "len"= some (.builtin "len"):=by decide +kernel
def XB:bootBuiltins "max"= some (.builtin "max"):=by decide +kernel
def AL:bootBuiltins "min"= some (.builtin "min"):=by decide +kernel
def AM:bootBuiltins "sum"= some (.builtin "sum"):=by decide +kernel
def JA:bootBuiltins "isinstance"= some (.builtin "isinstance"):=by decide +kernel
def LN:bootBuiltins "all"= some (.builtin "all"):=by decide +kernel
def AK:bootBuiltins "abs"= some (.builtin "abs"):=by decide +kernel
def xz:bootBuiltins "sorted"= some (.builtin "sorted"):=by decide +kernel
def LO:bootBuiltins "int"= some (.type "int"):=by decide +kernel
def ID:bootBuiltins "bool"= some (.type "bool"):=by decide +kernel
def Q5:bootBuiltins "list"= some (.type "list"):=by decide +kernel
def zV:bootBuiltins "tuple"= some (.type "tuple"):=by decide +kernel
def kz:bootBuiltins "dict"= some (.type "dict"):=by decide +kernel
def XA:bootBuiltins "enumerate"= some (.type "enumerate"):=by decide +kernel
def LP:bootBuiltins "zip"= some (.type "zip"):=by decide +kernel
def Fq:bootBuiltins "reversed"= some (.type "reversed"):=by decide +kernel
def Wz(K:cp)(t:Value)(h:(t==t)=true):PySem.W.kitOne K t t⊂true:=by unfold PySem.W.kitOne;rw[vd h]
def Gi(K:cp)(c:(Value.type a==Value.type b)=false)(d:PySem.W.kitMeta b=true)(e:PySem.W.subIn [] (.type a) (.type b)⊂v):PySem.W.kitOne K (.type a) (.type b)⊂v:=by
 unfold PySem.W.kitOne;rw[vc (by rw[c];rwa[vF])];show(if PySem.W.kitMeta b=true then _ else _)=_;rw[vd d];rwa[e]
def Gg{K:cp}:PySem.W.kitOne K (.type "int") (.type "int")⊂true:=Wz K _ (by decide +kernel)
def Fw{K:cp}:PySem.W.kitOne K (.type "int") (.type "bool")⊂false:=Gi K (by decide +kernel) (by decide +kernel) (by decide +kernel)
def wt{K:cp}:PySem.W.kitOne K (.type "list") (.type "list")⊂true:=Wz K _ (by decide +kernel)
def W6{K:cp}:PySem.W.kitOne K (.type "tuple") (.type "tuple")⊂true:=Wz K _ (by decide +kernel)
section
variable{X:Cx}{tg:Expr}
def Ez:uU X (λx lo hi H Q=>∃z,x = .str z/\⇑z<=sizeLine/\Q (.str (Txt.slice z lo hi)) H):=by
 intro b s n H x v p r lo hi o Q I m c g e h;let⟨z,rfl,d,q⟩:=h;let⟨t,rfl⟩:=m;erw["str",_,F.slot_str_getitem.lookup,typeIs_str _ _ _,?_];have a:∀(lo hi:Nu),Q (.str (Txt.slice z lo hi)) H->∀f k,EP X b n Q (.str (Txt.slice z lo hi) f) {s with toks:=k}:=λlo hi q f k=>#[.str _,H,I.tok _,#[_,rfl],q]
 cases g with
 | none=>
  cases e with
  | none=>rwa[wpAny_getItem_str_slice (l:=none) (u:=none) (st:=none) c rfl (post_val_or_str #[vW (Txt.slice_le z _ _) d,a _ _ q])]
  | int j uj=>rwa[wpAny_getItem_str_slice (l:=none) (u:=some (j,uj)) (st:=none) c rfl (post_val_or_str #[vW (Txt.slice_le z _ _) d,a _ _ q])]
 | int i ui=>
  cases e with
  | none=>rwa[wpAny_getItem_str_slice (l:=some (i,ui)) (u:=none) (st:=none) c rfl (post_val_or_str #[vW (Txt.slice_le z _ _) d,a _ _ q])]
  | int j uj=>rwa[wpAny_getItem_str_slice (l:=some (i,ui)) (u:=some (j,uj)) (st:=none) c rfl (post_val_or_str #[vW (Txt.slice_le z _ _) d,a _ _ q])]
def GJ(D:X.calm=true):c8 X (.builtin "all") (λxs H Q=>∃(p:Addr) (bs:List Bool),xs=[.ref p]/\bV X.K H p (bs.map V.bl)/\Q (.bl (bs.all id)) H):=by
 intro z s T H xs S Q I r h;let⟨p,bs,rfl,G,q⟩:=h;let⟨u,rfl,L⟩:=vals1 r;cases L;let⟨a,t,J,Z⟩:=I.list G;have l:=J.isList;let⟨o,F,Z⟩:=id l;have n:p≠s⁻¹:=vE (vI F);have W:=Walks.list (prog:=X.prog) (w:=X.w) (A:=X.A.in1) (I.ok.hd D) s⁻¹ p n a.toArray;erw[call_all_walk (wpAny_pyIter_list l #[s⁻¹,_,_,_,_,_,λi=>bs.getD i true,rfl,W,#[#[_,Heap.get?_push_size _ rfl,rfl,rfl],l.at λo e=>vJ _ e],?_,?_])]
 .intro i v P N M C j;have d:a[i]?⊂v:=by simpa using C
  have f:∃b,bs[i]?⊂b/\v = .bool b:=by
   have c:i<⇑bs:=by
    have:=(vx.mp d).1;have e:=⇑t;rw[vt]at e;lia
   let⟨u,y,K⟩:=t.get (i:=i) (x:=.bl bs[i]) (by rw[vv,vz c];rfl);rw[d]at y;cases y;rwa[_,vz c,K]
  let⟨b,B,rfl⟩:=f;dsimp only at j;rw[vy,B]at j;rwa[wpAny_truthy_bool j]
 .intro O R E;have e:(List.range a.toArray.size).all (λi=>bs.getD i true)=bs.all id:=by
   have m:a.toArray.size=⇑bs:=by
    have e:=⇑t;rw[vt]at e;simp[e]
   rw[m,Bool.eq_iff_iff];simp only[all_eq_true,mem_range,id_eq];constructor
   .intro k b f;let⟨i,g,rfl⟩:=mem_iff_getElem.mp f;have:=k i g;rw[vy,vz g]at this;rwa[this]
   .intro k i g;rw[vy,vz g];rwa[k _ (getElem_mem g)]
  rw[e];erw[.bl _,H,I.kept λb o e=>E b o ?_ (vJ _ e),rfl,q];intro f;have:b=s⁻¹:=by simpa using f
  rwa[uf (vI e) (this▸Nat.lt_irrefl _)]
def rd_str{R:Str->Prop}(h:R z):∃a,V.str z = .str a/\R a:=#[z,rfl,h]
end
section
variable{X:Cx}{K:cp}
def kI(e:X.K=K):rC X (oi K):=by subst e;rwa[jv]
def wM(e:X.K=K):rC X (ph K):=by subst e;rwa[jp]
def xC(e:X.K=K):c8 X (.builtin "len") (λxs H Q=>∃x n,xs=[x]/\sS K x H n/\Q (.int n) H):=by subst e;rwa[jR]
def ke(e:X.K=K):fH X (compareOp .In) (BM K false):=by subst e;rwa[KY]
end
mutual
inductive DV(H:Hp):V->PyData->Prop
 | cV:DV H .cV .none
 | bl (b:Bool):DV H (.bl b) (.bool b)
 | int (i:Int):DV H (.int i) (.int i)
 | str (x:Str):DV H (.str x) (.str x)
 | lst {a:Addr} {xs:N2} {ds:List PyData}:H a⊂.lst xs->hJ H xs ds->DV H (.ref a) (.list ds)
 | tup {a:Addr} {xs:N2} {ds:List PyData}:H a⊂.tup xs->hJ H xs ds->DV H (.ref a) (.tuple ds)
inductive hJ(H:Hp):N2->List PyData->Prop
 | nil:hJ H [] []
 | cons {x:V} {d:PyData} {xs:N2} {ds:List PyData}:DV H x d->hJ H xs ds->hJ H (x::xs) (d::ds)
end
mutual
theorem DV.mono{H H':Hp}(k:bU H H'):∀{v:V} {d:PyData},DV H v d->DV H' v d
 | _,_,.cV=>.cV
 | _,_,.bl b=>.bl b
 | _,_,.int i=>.int i
 | _,_,.str x=>.str x
 | _,_,.lst e r=>.lst (k _ _ e) (hJ.mono k r)
 | _,_,.tup e r=>.tup (k _ _ e) (hJ.mono k r)
theorem hJ.mono{H H':Hp}(k:bU H H'):∀{vs:N2} {ds:List PyData},hJ H vs ds->hJ H' vs ds
 | _,_,.nil=>.nil
 | _,_,.cons a r=>.cons (DV.mono k a) (hJ.mono k r)
end
section
variable{X:Cx}
mutual
theorem zY{p:St}{H:Hp}(I:Inv X pins p H s):∀{v:V} {d:PyData} {u:Value},DV H v d->RelV v u->∃as,Reads s.heap u d as
 | _,_,_,.cV,r=>#[_,by cases r;rwa[Reads.none]]
 | _,_,_,.bl b,r=>#[_,by cases r;rwa[Reads.bool b]]
 | _,_,_,.int i,r=>by let⟨t,rfl⟩:=r;rwa[_,Reads.int i t]
 | _,_,_,.str x,r=>by let⟨t,rfl⟩:=r;rwa[_,Reads.str x t]
 | _,_,_,.lst e q,r=>by
  cases r;let⟨Z,a,c,g,k⟩:=I.cv _ _ e;let⟨as,f⟩:=KN I q g;rwa[_,reads_list_at k rfl rfl #v[f]]
 | _,_,_,.tup e q,r=>by
  cases r;let⟨a,g,m,Z⟩:=I.tuple (cw.of e);let⟨o,l,h,n,j⟩:=m;let⟨as,f⟩:=KN I q g;rwa[_,reads_tuple_at l h j #v[f]]
theorem KN{d:St}{H:Hp}(I:Inv X pins d H s):∀{vs:N2} {ds:List PyData} {us:L9},hJ H vs ds->Vals vs us->∃as,ReadsAll s.heap us ds as
 | _,_,_,.nil,r=>by cases r;rwa[_,ReadsAll.nil]
 | _,_,_,.cons a q,r=>by
  cases r with
  | cons r1 r2=>
   let⟨as,b⟩:=zY I a r1;let⟨e,c⟩:=KN I q r2;rwa[_,ReadsAll.cons b c]
end
def A6(f:X.A.units+64<cLine):fH X (compareOp .Eq) (λx y H Q=>∃d e,DV H x d/\DV H y e/\SeqAt.shaped d=true/\SeqAt.shaped e=true/\Q (.bl (PyData.eqv d e)) H):=by
 intro a s p H x y v u Q I j k h;let⟨d,e,b,c,l,m,q⟩:=h;let⟨n,g⟩:=zY I b j;let⟨o,i⟩:=zY I c k;rwa[eq_dataH g i l m f #[.bl _,H,I,rfl,q]]
def WI(f:X.A.units+64<cLine):fH X (compareOp .NotEq) (λx y H Q=>∃d e,DV H x d/\DV H y e/\SeqAt.shaped d=true/\SeqAt.shaped e=true/\Q (.bl (!PyData.eqv d e)) H):=by
 intro a s p H x y v u Q I j k h;let⟨d,e,b,c,l,m,q⟩:=h;let⟨n,g⟩:=zY I b j;let⟨o,i⟩:=zY I c k;rwa[ne_dataH g i l m f #[.bl _,H,I,rfl,q]]
def Lf{us:L9}:∀{a:L5},IntsAre us a->Vals (a.map V.int) us:=by
 induction us with
 | nil=>intro a r;cases r;rwa[.nil]
 | cons u us ih=>
  intro a r;cases r with
  | cons n t r=>rwa[.cons #[t,rfl] (ih r)]
def KC(w:X.calm=true):c8 X (.builtin "max") (λxs H Q=>∃(p:Addr) (c:L5),xs=[.ref p]/\bV X.K H p (c.map V.int)/\0<⇑c/\∀m∈c,(∀a∈c,a<=m)->Q (.int m) H):=by
 intro n s L H xs K Q I r h;let⟨p,c,rfl,A,d,q⟩:=h;let⟨u,rfl,E⟩:=vals1 r;cases E;let⟨B,D,C,Z⟩:=I.list A;have k:=intsAre_of D;have l:=C.isList;let⟨xs,e⟩:=k.allInts.items;have b:c=xs.toList.map (·.1):=by rw[<-k.numsOf,<-nums_intItems,<-e]
 have f:0<xs.size:=by
  have g:=d;rw[b,vt,Array.length_toList]at g;rwa[g]
 rw[e]at l;erw[max_intList (I.ok.hd w) l f λv G F z y=>?_]
 let⟨t,rfl⟩:=intItems_at z;let⟨J,o⟩:=argBest_gt (numAt xs) (xs.size-1);erw[.int _,H,I.kept (t':=F) y,#[_,rfl],q _ ?_ λa i=>?_]
 .rw[b,numAt_eq];rwa[getD_mem (by rw[vt,Array.length_toList];lia)]
 .rw[b]at i;let⟨j,x,rfl⟩:=mem_getD i;rw[vt,Array.length_toList]at x;rw[<-numAt_eq];rwa[o j ⋯]
end
section
variable{σ:St}{H:Hp}{Q:VK}
def rd_dget(h:td σ H λx H1=>ty σ H1 λy H2=>∃a v,x = .ref a/\cY H2 a y (some v)/\Q v H2):ql td ty σ H Q:=h
def Mg{a:List (TE×TE)}(h:∀p,H p=none->gy a σ (upd H p (.dK [])) λps H2=>H2 p⊂(.dK [])/\∃kvs:List (Key×V),ps=kvs.map (λkv=>(kV kv.1,kv.2))/\⇑kvs<=15/\Q (.ref p) (upd H2 p (.dK (cG [] kvs)))):rf a σ H Q:=h
def rd_prN{R:List (V×V)->Hp->Prop}(h:R [] H):gy [] σ H R:=h
def rd_prC{a b:TE}{r:List (TE×TE)}{R:List (V×V)->Hp->Prop}(h:a σ H λx H1=>b σ H1 λy H2=>gy r σ H2 λps c=>R ((x,y)::ps) c):gy ((a,b)::r) σ H R:=h
end
def rL(K:cp)(a:Addr)(D:List (Str×PyProof.Rows.KTD.Dat)):Prop:=PyProof.Rows.KTD.tabLook (PyProof.Rows.KTD.datLooks λb=>K.lookup b) (λb=>K.lookup b) a D=true
section
variable{X:Cx}
def NA:fH X (compareOp .In) (λx y H Q=>∃a k D,x = .str k/\y = .ref a/\rL X.K a D/\Q (.bl (PyProof.Rows.KTD.inKeys k D)) H):=by
 intro b s f H x y v u Q I c d h;let⟨a,k,D,rfl,rfl,T,q⟩:=h;let⟨t,rfl⟩:=c;cases d;rwa[PyProof.Rows.KTD.in_text (h₀:=s.heap) #[PySem.W.kt_text_in I.fT T,λj j e=>e] #[.bl _,H,I.tok _,rfl,q]]
end
def Z1{K:cp}{a:Addr}{xs:N2}{k:Nat}{ci:L6}{g:TG}{r:TT}{o:TE}{s:St}{H:Hp}{Z:Addr->N2->Hp->Prop}(d:Nat->N2->Hp->Prop)(t:d 0 [] H)(z:∀i ys H,i<=⇑xs->d i ys H->cw K H a xs)
  (A:∀i x ys H,xs[i]?⊂x->d i ys H->g x (di k ci s) H λc H2=>r c H2 λb h=>if b=true then o c h λv l=>⇑ys<sizeLine/\d (i+1) (ys++[v]) l else d (i+1) ys h)
  (u:∀ys H,d ⇑xs ys H->⇑ys<=sizeLine/\∀p,H p=none->Z p ys H) :
  ∃W:Nat->Nat->N2->Hp->Prop,(∃m,W 0 m [] H)/\∀i m ys H,W i m ys H->
   ((nK K a).stop i H/\⇑ys<=sizeLine/\∀p,H p=none->Z p ys H)\/
   ((nK K a).go i H/\∃N:N2->Hp->Prop,(∀f H',N f H'->∃n,n<m/\W (i+1) n f H')/\∀x H',(nK K a).lI i H x H'->g x (di k ci s) H' λc H2=>r c H2 λb h=>
    if b=true then o c h λv l=>⇑ys<sizeLine/\N (ys++[v]) l else N ys h):=by
 erw[λi m ys H=>m=⇑xs-i/\i<=⇑xs/\d i ys H,#[⇑xs,by simp,va _,t],?_];rintro i m ys H ⟨rfl,w,p⟩;have q:=z i ys H w p;by_cases j:i<⇑xs
 .refine .inr #[#[xs,xs[i],q,by simp[j]],d (i+1),λf H' B=>#[⇑xs-(i+1),⋯,rfl,j,B],λx H' y=>?_];let⟨e,y⟩:=y;subst e;rwa[A i x ys _ (y xs q) p]
 .have e:i=⇑xs:=⋯
  subst e;rwa[.inl #[#[xs,q,vb _],u ys H p]]
def rd_iTup{K:cp}{b:TE}{c:St}{H:Hp}{R:It->Hp->Prop}(h:b c H λx H1=>∃a,x = .ref a/\(∃xs,cw K H1 a xs)/\R (nK K a) H1):tE K b c H R:=h
def JK{K:cp}{i j:Nat}{a:Addr}{x y:V}{b:St}{H:Hp}{R:St->Hp->Prop}(e:cw K H a [x,y])(h:cn i x b H λS' H'=>cn j y S' H' R):m6 K 2 (dN (cn i) (dN (cn j) m5)) (.ref a) b H R:=
 #[a,[x,y],rfl,e,rfl,x,[y],rfl,y,[],rfl,rfl,h]
def rd_sub{a:St}{H:Hp}{R:St->Hp->Prop}(h:to a H λo H1=>ti a H1 λi H2=>t o i v H2 λb=>R a b):tx to ti t v a H R:=h
def rd_dnew{a:St}{H:Hp}(h:∀p,H p=none->Q (.ref p) (upd H p (.dK []))):ox a H Q:=h
def rd_dput{b:St}{H:Hp}(h:tv b H λv H1=>td b H1 λx H2=>ty b H2 λy d=>∃a c,x = .ref a/\fV d a y v c/\D.nx b c):pX td ty tv D b H:=h
def rd_bm0{K:cp}{T:String}{r:V->N2->Hp->VK->Prop}{a:TE}{b:St}{H:Hp}{Q:VK}(h:a b H λx H1=>uP K T x H1/\r x [] H1 Q):uy K T r a b H Q:=h
section
variable{X:Cx}{pins:Ny}{σ:St}{H:Hp}{s:Shared}{h':Heap}
def Inv.gK{t':Nat}{ch:L7}(I:Inv X pins σ H s)(f:∀b∈ch,fM X pins H b)(k:∀b o,b∉ch->s.heap.get? b⊂o->h'.get? b⊂o):Inv X pins σ H {s with heap:=h',toks:=t'}:=by
 have d:∀b u,H b⊂u->b∉ch:=λb u e z=>by rw[(f b z).1]at e;cases e
 refine I.step (g':=s.gens) (d':=s.drawn) (ch:=ch) (λb t=>?_) (λb o Z Z a e Z=>k b o a e) (λb o Z Z a e Z=>#[o.slots,k b o a e]) (λZ Z Z Z n=>n)
  (λb o a e=>#[o,k b o a e]) (λZ Z e=>e) (λZ Z Z e=>e) (λb y e=>#[#[],by rw[e];simp]) (λm w=>?_) (λb u e=>?_) I.bare
 .let⟨_,i,_,j,l,p⟩:=f b t;rwa[j,i,l,p]
 .let⟨o,h,g,x,r⟩:=w;rwa[o,h,g,k _ o (λz=>(f _ z).2.1 rfl) x,r]
 .refine(I.cv b u e).hW (λc v a q=>k c v ?_ q) (λZ q=>q) λZ Z q=>q
  rcases a with z | z
  .rw[z];rwa[d b u e]
  .exact d c _ z
def Inv.pair{t':Nat}{ch:L7}{x y:V}{u v:Value}(I:Inv X pins σ H s)(c:∀b∈ch,fM X pins H b)(h:∀b∈ch,b<s⁻¹)(i:RelV x u)(j:RelV y v)
  (g:h'.get? s⁻¹=some {cls:=.type "tuple",data:=.seq [u,v].toArray}) (k:∀b o,b∉ch->s.heap.get? b⊂o->h'.get? b⊂o) :
  Inv X pins σ (upd H s⁻¹ (.tup [x,y])) {s with heap:=h',toks:=t'}/\∀b∈ch,fM X pins (upd H s⁻¹ (.tup [x,y])) b:=by
 have f:∀b∈ch,fM X pins (upd H s⁻¹ (.tup [x,y])) b:=λb a=>#[(jh (vE (h b a))).trans (c b a).1,(c b a).2]
 have d:Inv X pins σ (upd H s⁻¹ (.tup [x,y])) {s with heap:=s.heap.push {cls:=.type "tuple",data:=.seq [u,v].toArray},toks:=t'}:=
  I.laid (t':=t') (λb o e=>vJ _ e) (vb _) (show cm X.prog X.w _ _ _ (.tup [x,y])from#[(by show 2<=sizeLine;decide),[u,v],.cons i (.cons j .nil),IsTup.new _ _])
 erw[d.gK (h':=h') (t':=t') f λb o a e=>?_,f];rcases Heap.get?_push_cases e with⟨rfl,rfl⟩ | e
 .exact g
 .exact k b o a e
end
def sq(K:cp)(a:Addr):It:=
 #[λi H=>∃xs x,bV K H a xs/\xs[i]?⊂x,λi H x H'=>∃T v,x = .ref T/\H T=none/\H'=upd H T (.tup [.int i,v])/\∀xs,bV K H a xs->xs[i]?⊂v,λi H=>∃xs,bV K H a xs/\⇑xs<=i]
def Hx{P:Program}{w:World}{K:cp}{n:Nt}{k:Nat}{O:Pos}(a e it:Addr)(t:e≠it) :
  Turn P w K (.Tuple n k O) (sq K a) [e,it] e (λi h=>(∃f,IsEnum h e it ((i:Nat):Int) f)/\h.IsListIter it a i) where
 mem:=by simp
 obj:=λi h j b g=>by
  rcases(by simpa using g:b=e\/b=it)with rfl | rfl
  .let⟨f,l⟩:=j.1;rwa[_,l,λv z=>by cases z]
  .let⟨o,e,c,d⟩:=j.2;rwa[o,e,λv z=>by rw[d]at z;cases z]
 keep:=λi h h' j k=>#[let ⟨f,l⟩:=j.1;#[f,k e (by simp) _ l],j.2.at λo q=>k it (by simp) o q]
 item:=by
  intro X D L C S i A s σ H E I G j J;subst D L C;let⟨xs,x,B,M⟩:=J;let⟨N,Q,p,hz⟩:=I.list B;let⟨u,hu,ru⟩:=Q.get M;let⟨⟨f,l⟩,m⟩:=j;have le:e<s⁻¹:=vI l;have li:it<s⁻¹:=by let⟨o,q,_⟩:=id m;rwa[vI q]
  erw[wpAny_pyNext_enum_item l m p.isList (x:=u) #v[hu] t λh' ho r hT a0 hk=>?_]
  let⟨U,R⟩:=I.pair (t':=s.toks+1) (ch:=[e,it]) (x:=.int i) (y:=x) G (λb g=>by rcases(by simpa using g:b=e\/b=it)with rfl | rfl<;>assumption) #[s.toks,rfl] ru hT
   (λb o g q=>hk b o (λz=>g (by simp[z])) (λz=>g (by simp[z])) q)
  erw[_,rfl,wpAny_letOwnedTupleGo_enum ho λZ F T=>?_];have W:=U.gK (h':=Z) (t':=s.toks+1) (ch:=[e,it]) R λb o g q=>(T.2 b λz=>g (by simp[z])).trans q
  exact#[.ref s⁻¹,_,W,rfl,#[_,x,rfl,I.cv.fresh (vb _),rfl,λys hy=>by rw[I.fv hy B];rwa[M]],
   #[#[u,#v[F]],r.at λo q=>(T.2 it t.symm).trans q],λb g=>(R b g).1]
 done:=by
  intro X D L C S i A s σ H E I G j J;subst D L C;let⟨xs,B,M⟩:=J;let⟨N,Q,p,hz⟩:=I.list B;let⟨⟨f,l⟩,m⟩:=j;have hl:=⇑Q;rwa[wpAny_pyNext_enum_end (I.ok.hd S) l m p.isList (by simp;lia) λh' Y=>#[rfl,I.gK (t':=s.toks) (ch:=[e,it]) G λb o g q=>Y b o (λz=>g (by simp[z])) q]]
 self:=λ_ _ _ _ _ j h=>let ⟨_,l⟩:=j.1;wpAny_pyIter_enum l h
def pO(K:cp)(ta:TA):TI:=λσ H R=>ta σ H λvs H1=>∃a xs,vs=[.ref a]/\bV K H1 a xs/\R (sq K a) H1
def wQ{X:Cx}{a:Expr}{n:TA}{f:Nt}{k:Nat}{p i j:Pos}(v:Gl X "enumerate")(x:X.mg "enumerate"= none)(r:PA X [a] n)(z:starEach [a] X.env=[(false,eval a X.env)]:=by rfl) :
  PI X (.Tuple f k j) (.Call (.Name "enumerate" p) [a] [] i) (pO X.K n):=by
 intro g s F H R I h;erw[Call_ (Zd I v x XA (PyProof.Rows.callWith_type1 (cC (r i g s F H _ I h) λL e z_=>?_) z rfl))];obtain⟨M,o,d,D,C⟩:=z_;let⟨b,N,rfl,y,q⟩:=C;let⟨u,rfl,E⟩:=vals1 D;cases E;let⟨B,K,p,J⟩:=d.list y;erw[call_enumerate_list p.isList λG m l A w=>?_]
 erw[wpAny_pyIter_enum m ?_];erw[e⁻¹+1,[e⁻¹+1,e⁻¹],_,_,o,rfl,d.kept (t':=e.toks) w,Hx b _ _ (Nat.succ_ne_self _),#[#[_,#v[m]],l],λc t=>?_,q];rcases(by simpa using t:c=e⁻¹+1\/c=e⁻¹)with rfl | rfl
 .exact d.fY (Nat.le_succ _) (d.cv.fresh (Nat.le_succ _))
 .exact d.fY (vb _) (d.cv.fresh (vb _))
def kG{K:cp}{a:Addr}{xs:N2}{g:TG}{l:TS}{D:Ends}{c:St}{H:Hp}(d:Nat->St->Hp->Prop)(n:d 0 c H)(u:∀i c H,i<=⇑xs->d i c H->bV K H a xs)
  (w:∀i v c H T H',xs[i]?⊂v->d i c H->bU H H'->H' T⊂(.tup [.int i,v])->g (.ref T) c H' λf H2=>l {D with nx:=d (i+1),ct:=d (i+1),bk:=D.nx} f H2) (s:∀c H,d ⇑xs c H->D.nx c H) :
  ∃W:Nat->Nat->St->Hp->Prop,(∃m,W 0 m c H)/\∀i m c H,W i m c H->
   ((sq K a).stop i H/\D.nx c H)\/((sq K a).go i H/\∃N:St->Hp->Prop,(∀S' H',N S' H'->∃k,k<m/\W (i+1) k S' H')/\∀x H',(sq K a).lI i H x H'->g x c H' λf H2=>l {D with nx:=N,ct:=N,bk:=D.nx} f H2):=by
 erw[λi m c H=>m=⇑xs-i/\i<=⇑xs/\d i c H,#[⇑xs,by simp,va _,n],?_];rintro i m c H ⟨rfl,t,p⟩;have q:=u i c H t p;by_cases j:i<⇑xs
 .refine .inr #[#[xs,xs[i],q,by simp[j]],d (i+1),λS' H' z=>#[⇑xs-(i+1),⋯,rfl,j,z],λx H' y=>?_];let⟨T,v,rfl,r,e,y⟩:=y;rwa[w i v c H T H' (y xs q) p (λb o h=>by rw[e,jh (je h r)];rwa[h]) (by rw[e];rwa[jA])]
 .have e:i=⇑xs:=⋯
  subst e;rwa[.inl #[#[xs,q,vb _],s c H p]]
def rd_iEnum{K:cp}{b:TA}{c:St}{H:Hp}{R:It->Hp->Prop}(h:b c H λvs H1=>∃a xs,vs=[.ref a]/\bV K H1 a xs/\R (sq K a) H1):pO K b c H R:=h
def oN(K:cp)(a b:Addr):It:=
 #[λi H=>∃xs x ys y,bV K H a xs/\xs[i]?⊂x/\bV K H b ys/\ys[i]?⊂y,
  λi H x H'=>∃T u v,x = .ref T/\H T=none/\H'=upd H T (.tup [u,v])/\(∀xs,bV K H a xs->xs[i]?⊂u)/\∀ys,bV K H b ys->ys[i]?⊂v,
  λi H=>∃xs ys,bV K H a xs/\bV K H b ys/\(⇑xs<=i\/⇑ys<=i)]
def Qd{h:Heap}{a b:Addr}{o u:Obj}(c:h.get? a⊂o)(d:h.get? b⊂u)(f:o.cls≠u.cls):a≠b:=λe=>by
 lia
def Ld{P:Program}{w:World}{K:cp}{T:Nt}{k:Nat}{aa:Pos}(t A z TI TO l m:Addr)
  (D:∀t A,t≠z->t≠TO->t≠l->t≠m->A≠z->A≠TO->A≠l->A≠m->ZipApart z TI TO l m t A) :
  Turn P w K (.Tuple T k aa) (oN K t A) [z,TI,TO,l,m] z (λi h=>IsZip h z TI TO .none/\IsPair h TI (.ref l) (.ref m)/\(∃a b,IsPair h TO a b)/\h.IsListIter l t i/\h.IsListIter m A i) where
 mem:=by simp
 obj:=λi h M b j=>by
  let⟨n,g,⟨a,c,f⟩,J,L⟩:=M;rcases(by simpa using j:b=z\/b=TI\/b=TO\/b=l\/b=m)with rfl | rfl | rfl | rfl | rfl
  .exact#[_,n,λv z=>by cases z]
  .exact#[_,g,λv z=>by cases z]
  .exact#[_,f,λv z=>by cases z]
  .let⟨o,e,c,d⟩:=J;rwa[o,e,λv z=>by rw[d]at z;cases z]
  .let⟨o,e,c,d⟩:=L;rwa[o,e,λv z=>by rw[d]at z;cases z]
 keep:=λi h h' M k=>by
  let⟨n,g,⟨a,c,f⟩,J,L⟩:=M;rwa[k z (by simp) _ n,k TI (by simp) _ g,#[a,c,k TO (by simp) _ f],J.at λo q=>k l (by simp) o q,L.at λo q=>k m (by simp) o q]
 item:=by
  intro X hP hw hK hc i W s σ H E I hf M hg;subst hP hw hK;let⟨xs,x,ys,y,hq,hx,hr,hy⟩:=hg;let⟨a8,rv,p,_⟩:=I.list hq;let⟨a9,N,U,_⟩:=I.list hr;let⟨u,hu,ru⟩:=rv.get hx;let⟨v,hv,ab⟩:=N.get hy;let⟨n,g,⟨a,c,f⟩,J,L⟩:=M;let⟨o1,n1,F,B,_⟩:=id p;let⟨o2,n2,G,C,_⟩:=id U;let⟨o3,O,R,_⟩:=id J;let⟨o4,Q,S,_⟩:=id L;have r:=D t A (Qd F n (by rw[B];show Value.type "list"≠Value.type "zip";decide)) (Qd F f (by rw[B];show Value.type "list"≠Value.type "tuple";decide)) (Qd F O (by rw[B,R];decide)) (Qd F Q (by rw[B,S];decide))
   (Qd G n (by rw[C];show Value.type "list"≠Value.type "zip";decide)) (Qd G f (by rw[C];show Value.type "list"≠Value.type "tuple";decide)) (Qd G O (by rw[C,R];decide)) (Qd G Q (by rw[C,S];decide))
  have lt:∀b∈[z,TI,TO,l,m],b<s⁻¹:=λb j=>by
   rcases(by simpa using j:b=z\/b=TI\/b=TO\/b=l\/b=m)with rfl | rfl | rfl | rfl | rfl
   .exact vI n
   .exact vI g
   .exact vI f
   .exact vI O
   .exact vI Q
  erw[wpAny_pyNext_zip_item r n g f J L p.isList U.isList (x:=u) (y:=v) #v[hu] #v[hv] λh' a1 a2 a3 a4 a5 a6 Z=>?_]
  let⟨I1,f1⟩:=I.pair (t':=s.toks) (ch:=[z,TI,TO,l,m]) (x:=x) (y:=y) hf lt ru ab a5
   (λb o j q=>Z b o (λe=>j (by simp[e])) (λe=>j (by simp[e])) (λe=>j (by simp[e])) (λe=>j (by simp[e])) q)
  erw[_,rfl,wpAny_letOwnedTupleGo_zip a1 λh3 a7 Y=>?_];have I2:=I1.gK (h':=h3) (t':=s.toks) (ch:=[z,TI,TO,l,m]) f1 λb o j q=>(Y.2 b λe=>j (by simp[e])).trans q
  exact#[.ref s⁻¹,_,I2,rfl,#[_,x,y,rfl,I.cv.fresh (vb _),rfl,(λys hy=>by rw[I.fv hy hq];rwa[hx]),λys a0=>by rw[I.fv a0 hr];rwa[hy]],
   #[a7,(Y.2 TI r.TIz).trans (Z TI _ r.TIz r.TITO r.TIi1 r.TIi2 g),#[_,_,(Y.2 TO r.TOz).trans a2],a3.at λo q=>(Y.2 l r.i1z).trans q,a4.at λo q=>(Y.2 m r.i2z).trans q],λb j=>(f1 b j).1]
 done:=by
  intro X hP hw hK hc i W s σ H E I hf M hg;subst hP hw hK;let⟨xs,ys,hq,hr,hl⟩:=hg;let⟨a8,rv,p,_⟩:=I.list hq;let⟨a9,N,U,_⟩:=I.list hr;let⟨n,g,⟨a,c,f⟩,J,L⟩:=M;let⟨o1,n1,F,B,_⟩:=id p;let⟨o2,n2,G,C,_⟩:=id U;let⟨o3,O,R,_⟩:=id J;let⟨o4,Q,S,_⟩:=id L;have r:=D t A (Qd F n (by rw[B];show Value.type "list"≠Value.type "zip";decide)) (Qd F f (by rw[B];show Value.type "list"≠Value.type "tuple";decide)) (Qd F O (by rw[B,R];decide)) (Qd F Q (by rw[B,S];decide))
   (Qd G n (by rw[C];show Value.type "list"≠Value.type "zip";decide)) (Qd G f (by rw[C];show Value.type "list"≠Value.type "tuple";decide)) (Qd G O (by rw[C,R];decide)) (Qd G Q (by rw[C,S];decide))
  have ac:=⇑rv;have ad:=⇑N;erw[wpAny_pyNext_zip_end (I.ok.hd hc) r n g f J L p.isList U.isList ?_ λh' Z=>#[rfl,I.gK (t':=s.toks) (ch:=[z,TI,TO,l,m]) hf λb o j q=>Z b o (λe=>j (by simp[e])) (λe=>j (by simp[e])) (λe=>j (by simp[e])) (λe=>j (by simp[e])) q]]
  simp_all
 self:=λ_ _ _ _ _ M h=>wpAny_pyIter_zip M.1 h
def ZU{n i j:Nat}(h:i≠j):n+i≠n+j:=λe=>h (Nat.add_left_cancel e)
def tF(K:cp)(ta:TA):TI:=λσ H R=>ta σ H λvs H1=>∃a b xs ys,vs=[.ref a,.ref b]/\bV K H1 a xs/\bV K H1 b ys/\R (oN K a b) H1
def Be{X:Cx}{a b:Expr}{w:TA}{f:Nt}{k:Nat}{p n o:Pos}(O:Gl X "zip")(Q:X.mg "zip"= none)(M:PA X [a,b] w)(U:starEach [a,b] X.env=[(false,eval a X.env),(false,eval b X.env)]:=by rfl)(l:starEach [b] X.env=[(false,eval b X.env)]:=by rfl) :
  PI X (.Tuple f k o) (.Call (.Name "zip" p) [a,b] [] n) (tF X.K w):=by
 intro m s σ H R I h;erw[Call_ (Zd I O Q LP (PyProof.Rows.callWith_type1 (cC (M n m s σ H _ I h) λus d ⟨vs,x,e,r1,q1⟩=>?_) (by rw[U,l]) (by rw[l];rfl)))];let⟨u,v,xs,ys,rfl,S,T,q⟩:=q1;cases r1 with
 | cons r rr=>
  cases rr with
  | cons r' rr=>
   cases rr;cases r;cases r';let⟨Y,rv,p,hz⟩:=e.list S;let⟨Z,a0,p',W⟩:=e.list T;erw[call_zip_2 p.isList p'.isList λh' t y z A B a6 P=>?_]
   erw[wpAny_pyIter_zip t ?_];refine#[d⁻¹+4,[d⁻¹+4,d⁻¹+2,d⁻¹+3,d⁻¹,d⁻¹+1],_,_,x,rfl,e.kept (t':=d.toks) P,
    Ld u v _ _ _ _ _ (λu v C D E F G J K L=>#[ZU nofun,ZU nofun,ZU (i:=0) nofun,ZU nofun,ZU nofun,ZU (j:=0) nofun,ZU nofun,ZU (j:=0) nofun,ZU nofun,ZU (i:=0) nofun,C,D,E,F,G,J,K,L]),#[t,y,#[_,_,z],A,B],λc N=>?_,q]
   have g:d⁻¹<=c:=by
    rcases(by simpa using N:c=d⁻¹+4\/c=d⁻¹+2\/c=d⁻¹+3\/c=d⁻¹\/c=d⁻¹+1)with rfl | rfl | rfl | rfl | rfl<;>lia
   rwa[e.fY g (e.cv.fresh g)]
def IT{K:cp}{a b:Addr}{xs ys:N2}{g:TG}{r:TS}{D:Ends}{c:St}{H:Hp}(d:Nat->St->Hp->Prop)(l:⇑xs=⇑ys)(s:d 0 c H)(A:∀i c H,i<=⇑xs->d i c H->bV K H a xs/\bV K H b ys)
  (B:∀i u v c H T H',xs[i]?⊂u->ys[i]?⊂v->d i c H->bU H H'->H' T⊂(.tup [u,v])->g (.ref T) c H' λf H2=>r {D with nx:=d (i+1),ct:=d (i+1),bk:=D.nx} f H2) (w:∀c H,d ⇑xs c H->D.nx c H) :
  ∃W:Nat->Nat->St->Hp->Prop,(∃m,W 0 m c H)/\∀i m c H,W i m c H->
   ((oN K a b).stop i H/\D.nx c H)\/((oN K a b).go i H/\∃N:St->Hp->Prop,(∀S' H',N S' H'->∃n,n<m/\W (i+1) n S' H')/\∀x H',(oN K a b).lI i H x H'->g x c H' λf H2=>r {D with nx:=N,ct:=N,bk:=D.nx} f H2):=by
 erw[λi m c H=>m=⇑xs-i/\i<=⇑xs/\d i c H,#[⇑xs,by simp,va _,s],?_];rintro i m c H ⟨rfl,z,p⟩;let⟨q,k⟩:=A i c H z p;by_cases j:i<⇑xs
 .refine .inr #[#[xs,xs[i],ys,ys[i],q,by simp[j],k,by simp],d (i+1),λS' H' C=>#[⇑xs-(i+1),⋯,rfl,j,C],λx H' y=>?_];let⟨T,u,v,rfl,t,e,y,E⟩:=y;rwa[B i u v c H T H' (y xs q) (E ys k) p (λb o h=>by rw[e,jh (je h t)];rwa[h]) (by rw[e];rwa[jA])]
 .have e:i=⇑xs:=⋯
  subst e;rwa[.inl #[#[xs,ys,q,k,.inl (vb _)],w c H p]]
def rd_iZip{K:cp}{c:TA}{d:St}{H:Hp}{R:It->Hp->Prop}(h:c d H λvs H1=>∃a b xs ys,vs=[.ref a,.ref b]/\bV K H1 a xs/\bV K H1 b ys/\R (oN K a b) H1):tF K c d H R:=h
def xH:entryFor table "dict.update.loop"= some Builtin.«dict.update.loop»:=entryFor_of_tree (by kernel_rfl)
def Z7:plainId "dict.update.loop"= true:=by decide +kernel
def Gu:typeLookup (.type "list") "keys"= pure none:=by rw[typeLookup_type,builtinLookup_eq_fast];kernel_rfl
section
variable{prog:Program}{w:World}{A:Around}{E:Nz}{s:Shared}
def og{Q:Option Value->Shared->Prop}(p:s.heap.get? a⊂o)(m:o.cls = .type "list")(f:o.data = .seq xs k)(n:o.dict=none)(t:A.handled=none)
  (h:∀h' tk,(∀b o,s.heap.get? b⊂o->h'.get? b⊂o)->Q none {s with heap:=h',toks:=tk}):wpAny (model prog w) A (getAttr? (.ref a) "keys") Q E s:=by
 let⟨c,r,q,x⟩:=o;simp only at m f n;subst m f n;let⟨u,g,d,tk,v⟩:=s;have l:∀j,(#[u,g,d,j,v]:Shared).TypeIs (.ref a) "list":=λZ=>#[_,p,rfl]
 have y:=sub_AttributeError;have z:=F.slot_list_getattribute.lookup;have B:=F.slot_list_getattribute.bind (.ref a);have C:=am_list_getattr_none;unfold getAttr? getAttrBy? getAttrBy
 repeat (any_goals (first | assumption | exact l _ | ((with_reducible show wpAny _ _ (call (Value.builtin "list.__getattribute__") _ _) _ _ _);erw[call_meets F.slot_list_getattribute (l _) am_entry_list_getattribute (F.args_list_getattribute_2 _ _) (meets_getattribute_miss_list a xs k x "keys" _ Gu (by decide +kernel) (by decide +kernel)) #[p,t,λh' j e i=>?_]]) | wp_step))
 let⟨G,H,D⟩:=i.there;show wpAny _ _ (getattributeRaised _ _ _ _ _ _ _) _ _ _;unfold getattributeRaised
 repeat (any_goals (first | assumption | wp_step))
 rwa[h _ _ i.keeps]
variable{K:Type}[DecidableEq K]{knd:KeyKind prog w K}
noncomputable def tw(acc:List (K×Value))(ps:List (K×Value)):List (K×Value):=ps.foldl (λacc kv=>stored acc kv.1 kv.2) acc
def FX(acc:List (K×Value))(k:K)(v:Value):⇑(stored acc k v)<=⇑acc+1:=by
 unfold stored;split
 .rw[vt];rwa[Nat.le_succ _]
 .rw[vn];rwa[vb _]
theorem Al{R:Result->Shared->Prop}{d it l:Addr}{items:L9}{res:Value}(M:A.handled=none)(g:d≠it)(p:d≠l)(q:it≠l) :
  ∀(ps:List (K×Value)) (i:Nat) (acc:List (K×Value)) (s:Shared),s.heap.IsListIter it l i->s.heap.IsList l items.toArray->(⇑items=i+⇑ps)->
   (∀j kv,ps[j]?⊂kv->∃a key,items[i+j]?=↥a/\IsTup s.heap a [key,kv.2].toArray/\knd.is kv.1 key=true/\a≠d/\a≠it)->s.heap.DictOf knd d acc->⇑acc+⇑ps<=sizeLine->
   (∀h' tk,(∀b o,b≠d->b≠it->s.heap.get? b⊂o->h'.get? b⊂o)->h'.DictOf knd d (tw acc ps)->R (.ok (.ret res)) {s with heap:=h',toks:=tk})->
   codeAny (model prog w) A (.builtin "dict.update.loop" #[[.ref d,.ref it,rawInt i,res],[]]) R s
 | [],i,acc,s,hit,hl,hn,hp,hd,hz,hR=>by
  erw[codeAny_builtin xH ?_];rw[Around.under_plainId Z7 _];show wpAny _ A.in1 (pyNext (.ref it) >>= _) _ _ s;erw[uh (wpAny_pyNext_list_end (A:=A.in1) M hit hl (by simp;simp at hn;lia) λh' L=>?_)];show wpAny _ A.in1 (Builtin.Dict.addKeywords d [] >>= _) _ _ _;erw[uh (ug (ug (hR h' s.toks (λb o _ B e=>L b o B e) ?_)))];rwa[hd.extBut L g]
 | kv::ps,i,acc,s,hit,hl,hn,hp,hd,hz,hR=>by
  let⟨a,key,U,Z,Y,W,z⟩:=hp 0 kv rfl;erw[codeAny_builtin xH ?_];rw[Around.under_plainId Z7 _];show wpAny _ A.in1 (pyNext (.ref it) >>= _) _ _ s;erw[uh (wpAny_pyNext_list_item (A:=A.in1) hit hl (x:=.ref a) #v[U] λv r J=>?_)];let⟨ot,P,oc,n,od⟩:=Z;have m:v.get? a⊂ot:=(J.2 a z).trans P;show wpAny _ A.in1 (holding [Value.ref a] _ >>= _) _ _ _;erw[uh (wpAny_holding ?_)];erw[uh (wpAny_tryCatch ?_)];unfold Builtin.Dict.pairItems;erw[uh (wpAny_typeOf (T:="tuple") #[_,m,oc] ?_)];show wpAny _ A.in1 (if((Value.type "tuple"== Value.type "list")||(Value.type "tuple"== Value.type "tuple"))=true then _ else _) _ _ _;rw[vd nofun];erw[uh (wpAny_seqItems m od ?_)];erw[ug ?_];show wpAny _ A.in1 (holding [key,kv.2] (dictSet d key kv.2)) _ _ _;have C:v.DictOf knd d acc:=hd.extBut (λb o B e=>(J.2 b B).trans e) g;erw[wpAny_holding (wpAny_dictSet_pairs (s:={s with heap:=v}) Y C (λQ D u=>?_) (by simp at hz;lia))];show wpAny _ A.in1 (again _) _ _ _;erw[ug #[plainId_quiet Z7 _,?_]];have H:∀b o,b≠d->b≠it->s.heap.get? b⊂o->Q.get? b⊂o:=λb o c f e=>(u.2 b c).trans ((J.2 b f).trans e)
  have sl:=FX acc kv.1 kv.2;erw[Al M g p q ps (i+1) (stored acc kv.1 kv.2) _ (r.at λo e=>(u.2 it g.symm).trans e) (hl.at λo e=>H l o p.symm q.symm e) (by simp at hn;lia) (λj I X=>?_) D (by simp at hz;lia) λS tk k3 E=>?_]
  .let⟨N,t,y,G,F,h,k⟩:=hp (j+1) I #v[X];let⟨o',O,r'⟩:=G;rwa[N,t,by rw[<-y];congr 1;lia,#[o',H _ _ h k O,r'],F,h,k]
  .exact hR S tk (λb o c f e=>k3 b o c f (H b o c f e)) E
end
open PySem PySem.W PyProof.Rows
section
variable{n:Nat}{key:Nat->Int}{p:Array Nat}
noncomputable def Tw(n:Nat)(key:Nat->Int){α:Type}:KasT α->(α->Prop)->Prop
 | .ret a,Q=>Q a
 | .ask i j k,Q=>i<n/\j<n/\Tw n key (k (decide (key i<key j))) Q
theorem Tw.bind{b c:Type}{f:b->KasT c}{Q:c->Prop}:∀{t:KasT b},Tw n key t (λa=>Tw n key (f a) Q)->Tw n key (t.bind f) Q
 | .ret _,h=>h
 | .ask _ _ _,h=>#[h.1,h.2.1,Tw.bind h.2.2]
theorem Tw.mono{d:Type}{Q b:d->Prop}(c:∀a,Q a->b a):∀{t:KasT d},Tw n key t Q->Tw n key t b
 | .ret _,h=>c _ h
 | .ask _ _ _,h=>#[h.1,h.2.1,Tw.mono c h.2.2]
theorem Tw.run{d:Type}{b:Nat->Nat->(Bool->Shared->Prop)->Shared->Prop}{Q:d->Shared->Prop}(c:∀i j C,i<n->j<n->C (decide (key i<key j)) s->b i j C s) :
  ∀{t:KasT d},Tw n key t (λa=>Q a s)->t.kasWp b Q s
 | .ret _,h=>h
 | .ask i j k,h=>c i j _ h.1 h.2.1 (Tw.run c h.2.2)
def Tw.asks{a:Type}{k:Bool->KasT a}{Q:a->Prop}(hi:i<n)(e:j<n)(b:key i<key j->Tw n key (k true) Q)(d:¬key i<key j->Tw n key (k false) Q):Tw n key (.ask i j k) Q:=by
 erw[hi,e,?_];by_cases c:key i<key j
 .rw[vG c];rwa[b c]
 .rw[vH c];rwa[d c]
def Pk(n:Nat)(p:Array Nat):Prop:=p.toList.Perm (List.range n)
noncomputable def kv(key:Nat->Int)(p:Array Nat)(i:Nat):Int:=key (p∘i)
def Up(key:Nat->Int)(p:Array Nat)(k:Nat):Prop:=∀i j,i<=j->j<k->kv key p i<=kv key p j
def Dn(key:Nat->Int)(p:Array Nat)(k:Nat):Prop:=∀i j,i<=j->j<k->kv key p j<=kv key p i
def zp(key:Nat->Int)(p:Array Nat)(m q:Nat):Prop:=∀k,m-(q+1)<=k->k<m->kv key p k=kv key p (m-1)
def Pk.size(h:Pk n p):p.size=n:=by have:=h.length_eq;simpa using this
def Pk.lt(h:Pk n p)(a:0<n)(i:Nat):p∘i<n:=by
 rw[Array.getD_eq_getD_getElem?];cases e:p[i]? with
 | none=>rwa[a]
 | some x=>rwa[v4.mp (h.mem_iff.mp (Array.mem_toList_iff.mpr (Array.mem_of_getElem? e)))]
def Pk.of(h:Pk n p)(a:q.Perm p):Pk n q:=(Array.perm_iff_toList_perm.mp a).trans h
def tI(h:a[i]?=b[j]?):kv key a i=kv key b j:=by
 unfold kv;rw[Array.getD_eq_getD_getElem?,Array.getD_eq_getD_getElem?,h]
def AZ(a:j<=p.size)(k:Nat):kv key (kas_rev p i j) k=if i<=k/\k<j then kv key p (i+j-1-k)else kv key p k:=by
 have h:=getElem?_mirror_all (xs:=p) (i:=i) a k;split
 .rename_i c;rw[vd c]at h;rwa[tI h]
 .rename_i c;rw[vc c]at h;rwa[tI h]
def Nf(b:src<p.size)(a:d<=src)(k:Nat):kv key (bubble p src d) k=if k=src-d then kv key p src else if src-d<k/\k<=src then kv key p (k-1)else kv key p k:=by
 have h:=getElem?_bubble (xs:=p) b d a k;split
 .rename_i c;rw[vd c]at h;rwa[tI h]
 .rename_i c;rw[vc c]at h;split
  .rename_i c';rw[vd c']at h;rwa[tI h]
  .rename_i c';rw[vc c']at h;rwa[tI h]
def Up.snoc(h:Up key p m)(d:1<=m)(f:¬kv key p m<kv key p (m-1)):Up key p (m+1):=λi j a g=>by
 by_cases e:j<m
 .exact h i j a e
 .have c:j=m:=⋯
  subst c;by_cases b:i=j
  .rw[b];rwa[vA _]
  .have:=h i (j-1) ⋯ ⋯;lia
def Dn.snoc(h:Dn key p m)(d:1<=m)(f:kv key p m<=kv key p (m-1)):Dn key p (m+1):=λi j a g=>by
 by_cases e:j<m
 .exact h i j a e
 .have c:j=m:=⋯
  subst c;by_cases b:i=j
  .rw[b];rwa[vA _]
  .have:=h i (j-1) ⋯ ⋯;lia
theorem BA(a:Pk n p):∀f m,1<=m->m+f<=n->Up key p m->Tw n key (kas_asc p f m) λr=>m<=r/\r<=m+f/\Up key p r/\(r<m+f->kv key p r<kv key p (r-1))
 | 0,m,h1,hn,hu=>#[vb _,vb _,hu,λh=>uf h (Nat.lt_irrefl _)]
 | f+1,m,h1,hn,hu=>by
  erw[Tw.asks (a.lt ⋯ _) (a.lt ⋯ _) (λc=>?_) (λc=>?_)]<;>simp only[Bool.false_eq_true,if_true,if_false]
  .exact#[vb _,⋯,hu,λq=>c]
  .exact Tw.mono (λr h=>#[⋯,⋯,h.2.2.1,λb=>h.2.2.2 ⋯]) (BA a f (m+1) ⋯ ⋯ (hu.snoc h1 c))
def Dt(b:m<=p.size)(a:zp key p m q)(k:Nat):kv key (kas_rev p (m-(q+1)) m) k=kv key p k:=by
 rw[AZ b];split
 .rename_i c;rw[a k c.1 c.2,a _ ⋯ ⋯]
 .rfl
theorem u4:∀f (p:Array Nat) m q,Pk n p->1<=m->m+f<=n->q+1<=m->Dn key p m->zp key p m q->
  Tw n key (kas_desc f p m q) λr=>Pk n r.1/\m<=r.2.1/\r.2.1<=m+f/\Dn key r.1 r.2.1/\r.2.2+1<=r.2.1/\zp key r.1 r.2.1 r.2.2
 | 0,p,m,q,hp,h1,hn,hq,hd,he=>#[hp,vb _,vb _,hd,hq,he]
 | f+1,p,m,q,hp,h1,hn,hq,hd,he=>by
  have t:=hp.size;erw[Tw.asks (hp.lt ⋯ _) (hp.lt ⋯ _) (λc=>?_) (λc=>?_)]<;>simp only[Bool.false_eq_true,if_true,if_false]
  .have c:kv key p m<kv key p (m-1):=c;split
   .have g:=Dt (key:=key) (p:=p) (m:=m) (q:=q) ⋯ he;have d:Pk n (kas_rev p (m-(q+1)) m):=hp.of (mirror_perm _ _ _ _);refine Tw.mono (λr h=>#[h.1,⋯,⋯,h.2.2.2]) (u4 f _ (m+1) 0 d ⋯ ⋯ ⋯ (λi j b s=>?_) λk l o=>?_)
    .rw[g,g];rwa[hd.snoc h1 ⋯ i j b s]
    .rw[show k=m+1-1 by lia]
   .refine Tw.mono (λr h=>#[h.1,⋯,⋯,h.2.2.2]) (u4 f p (m+1) 0 hp ⋯ ⋯ ⋯ (hd.snoc h1 ⋯) λk l o=>?_);rw[show k=m+1-1 by lia]
  .have c:¬kv key p m<kv key p (m-1):=c;erw[Tw.asks (hp.lt ⋯ _) (hp.lt ⋯ _) (λa=>?_) (λa=>?_)]<;>simp only[Bool.false_eq_true,if_true,if_false]
   .exact#[hp,vb _,Nat.le_add_right m (f+1),hd,hq,he]
   .have a:¬kv key p (m-1)<kv key p m:=a;erw[Tw.mono (λr h=>#[h.1,⋯,⋯,h.2.2.2]) (u4 f p (m+1) (q+1) hp ⋯ ⋯ ⋯ (hd.snoc h1 ⋯) λk l o=>?_)];rw[Nat.add_sub_cancel];by_cases e:k=m
    .rw[e]
    .rw[he k ⋯ ⋯];lia
def EF(c:Pk n p)(d:1<=m)(k:m<=n)(e:Dn key p m):Tw n key (kas_tail3 m n p) λr=>Pk n r.2/\1<=r.1/\r.1<=n/\Up key r.2 r.1:=by
 have l:=c.size;have a:Pk n (kas_rev p 0 m):=c.of (mirror_perm _ _ _ _);have b:=AZ (key:=key) (p:=p) (i:=0) (j:=m) ⋯;erw[Tw.bind (Tw.mono (λr h=>?_) (BA a (n-m) m d ⋯ λi j f g=>?_))]
 .exact#[a,⋯,⋯,h.2.2.1]
 .rw[b,b,vd #[va _,⋯],vd #[va _,g]];rwa[e _ _ ⋯ ⋯]
def ED(t:Pk n p)(u:m+1<=n)(o:Dn key p (m+1)):Tw n key (kas_descPart m n p) λr=>Pk n r.2/\1<=r.1/\r.1<=n/\Up key r.2 r.1:=by
 erw[Tw.bind (Tw.mono (λr h=>?_) (u4 (n-(m+1)) p (m+1) 0 t ⋯ ⋯ ⋯ o λk v w=>by rw[show k=m+1-1 by lia]))];let⟨a,b,c,d,e,g⟩:=h;have x:=a.size;split
 .have l:=Dt (key:=key) (p:=r.1) (m:=r.2.1) (q:=r.2.2) ⋯ g;rwa[EF (a.of (mirror_perm _ _ _ _)) ⋯ ⋯ λi j f s=>by rw[l,l];rwa[d i j f s]]
 .exact EF a ⋯ ⋯ d
def LA(g:Pk n p)(t:1<=n):Tw n key (kas_count n p) λr=>Pk n r.2/\1<=r.1/\r.1<=n/\Up key r.2 r.1:=by
 have y:=g.size;erw[Tw.bind (Tw.mono (λr h=>?_) (BA (key:=key) g (n-1) 1 ⋯ ⋯ λi j l m=>by rw[show i=j by lia];rwa[vA _]))];let⟨a,b,c,d⟩:=h;split
 .exact#[g,a,⋯,c]
 rename_i hne;have w:r<n:=by
  have:r≠n:=λe=>hne (by rw[e];simp)
  lia
 have d:=d ⋯;split
 .refine Tw.asks (g.lt ⋯ _) (g.lt ⋯ _) (λq=>?_) (λq=>?_)<;>simp only[Bool.false_eq_true,if_true,if_false]
  .exact#[g,a,⋯,c]
  .have q:¬kv key p 0<kv key p (r-1):=q;have v:=AZ (key:=key) (p:=p) (i:=0) (j:=r) ⋯;have f:∀i,i<r->kv key p i=kv key p (r-1):=λi u=>by
    have t:=c 0 i (va _) u;have x:=c i (r-1) ⋯ ⋯;lia
   have k:∀i,kv key (kas_rev p 0 r) i=kv key p i:=λi=>by
    rw[v];split
    .rename_i q';rw[f _ q'.2,f _ ⋯]
    .rfl
   erw[ED (g.of (mirror_perm _ _ _ _)) ⋯ λi j l m=>?_]
   rw[k,k];by_cases e:j=r
   .by_cases o:i=r
    .rw[e,o];rwa[vA _]
    .rw[e,f i ⋯];lia
   .rw[f i ⋯,f j ⋯];rwa[vA _]
 .have s:r=1:=⋯
  subst s;erw[ED g ⋯ λi j l m=>?_]
  rcases(by lia:(i=0/\j=0)\/(i=0/\j=1)\/(i=1/\j=1))with⟨rfl,rfl⟩ | ⟨rfl,rfl⟩ | ⟨rfl,rfl⟩
  .exact vA _
  .have:kv key p 1<kv key p (1-1):=d;rwa[Int.le_of_lt this]
  .exact vA _
theorem Az(e:Pk n p)(c:k<n)(g:Up key p k):∀f l r,l<=r->r<=k->r-l<=f->(∀i,i<l->kv key p i<=kv key p k)->(∀i,r<=i->i<k->kv key p k<kv key p i)->
  Tw n key (kas_place p k f l r) λm=>m<=k/\(∀i,i<m->kv key p i<=kv key p k)/\∀i,m<=i->i<k->kv key p k<kv key p i
 | 0,l,r,h1,h2,h3,a,b=>#[⋯,a,λi d=>b i ⋯]
 | f+1,l,r,h1,h2,h3,a,b=>by
  unfold kas_place;split
  .exact#[⋯,a,λi d=>b i ⋯]
  erw[Tw.asks (e.lt ⋯ _) (e.lt ⋯ _) (λq=>?_) (λq=>?_)]<;>simp only[Bool.false_eq_true,if_true,if_false]
  .have q:kv key p k<kv key p ((l+r)/2):=q;exact Az e c g f l _ ⋯ ⋯ ⋯ a λi d h=>by
    have:=g ((l+r)/2) i d h;lia
  .have q:¬kv key p k<kv key p ((l+r)/2):=q;exact Az e c g f _ r ⋯ h2 ⋯ (λi d=>by
    have:=g i ((l+r)/2) ⋯ ⋯;lia) b
theorem ER:∀f (p:Array Nat) k,Pk n p->k+f<=n->Up key p k->Tw n key (kas_bin f p k) λq=>Pk n q/\Up key q (k+f)
 | 0,p,k,hp,hn,hu=>#[hp,hu]
 | f+1,p,k,hp,hn,hu=>by
  have t:=hp.size;erw[Tw.bind (Tw.mono (λl h=>?_) (Az hp ⋯ hu k 0 k (va _) (vb _) ⋯ (λi o=>uf o (Nat.not_lt_zero _)) λi e m=>uf e ⋯))];let⟨a,b,c⟩:=h;have g:=Nf (key:=key) (p:=p) (src:=k) (d:=k-l) ⋯ ⋯;erw[Tw.mono (λq h=>#[h.1,by rw[show k+(f+1)=k+1+f by lia];rwa[h.2]]) (ER f _ (k+1) (hp.of (bubble_perm _ _ _)) ⋯ λi j r s=>?_)];rw[g,g,show k-(k-l)=l by lia]
  repeat' split
  all_goals first
   | rwa[vA _]
   | (exfalso;lia)
   | rwa[Int.le_of_lt (c _ ⋯ ⋯)]
   | rwa[b _ ⋯]
   | rwa[hu _ _ ⋯ ⋯]
   | (have e:=b i ⋯;have m:=c (j-1) ⋯ ⋯;lia)
def MN(f:1<=n):Tw n key (kas_sort n) λq=>Pk n q/\Up key q n:=by
 have g:Pk n (List.toArray (List.range n)):=List.Perm.refl _;erw[Tw.bind (Tw.mono (λr h=>?_) (LA (key:=key) g f))];let⟨a,b,c,d⟩:=h;split
 .refine Tw.mono (λq h=>#[h.1,?_]) (ER (n-max r.1 1) r.2 (max r.1 1) a ⋯ (by rw[show max r.1 1=r.1 by lia];rwa[d]));have e:max r.1 1+(n-max r.1 1)=n:=⋯
  rw[e]at h;rwa[h.2]
 .have e:r.1=n:=⋯
  rwa[a,by rw[<-e];rwa[d]]
end
section
variable{prog:Program}{w:World}{A:Around}{E:Nz}{s:Shared}
def lM(h:Heap)(as:L7)(key:Nat->Int):Prop:=∀i a,as[i]?⊂a->∃o t u n,h.get? a⊂o/\o.cls = .type "tuple"/\o.data = .seq [.int (key i) t,u].toArray n
def lM.keep{key:Nat->Int}(x:lM h as key)(k:∀a∈as,∀o,h.get? a⊂o->h'.get? a⊂o):lM h' as key:=λi a e=>by
 let⟨o,t,u,n,q,r⟩:=x i a e;rwa[o,t,u,n,k a (vm e) _ q,r]
def M4{key:Nat->Int}(x:lM s.heap as key)(d:∀i j,i<⇑as->j<⇑as->key i=key j->i=j){C:Bool->Shared->Prop}(hi:i<⇑as)(b:j<⇑as)
  (h:C (decide (key i<key j)) s):kas_ask prog w A (tuples' true) (as.map Value.ref) i j C s:=by
 unfold kas_ask;let⟨o,t,u,n,k,B,f⟩:=x i _ (vz hi);let⟨y,z,m,E,l,D,g⟩:=x j _ (vz b);have p:(as.map Value.ref).getD i Value.none = .ref as[i]:=by rw[vy,vv,vz hi];rfl
 have q:(as.map Value.ref).getD j Value.none = .ref as[j]:=by rw[vy,vv,vz b];rfl
 rw[p,q];erw[kat_lt k f l g ?_];show KatLex prog w A true _ C [(.int (key i) t,.int (key j) z),(u,m)] 0 s;erw[kat_cons (wpAny_eqBool_int ?_)];by_cases c:key i=key j
 .have v:=d i j hi b c;subst v;rw[beq_self_eq_true];have r:u=m:=by
   have e:o=y:=vL (k.symm.trans l);subst e;have e:=f.symm.trans g;injection e with e _;have:=congrArg (λa:Array Value=>a[1]?) e;simpa using this
  subst r;erw[kat_yes (kat_cons (SeqAt.EqAt.same _ _ _ _ _ ?_))];erw[kat_yes (kat_nil ?_)];rw[vH (Int.lt_irrefl _)]at h;rwa[h]
 .rw[beq_false_of_ne c];rwa[kat_no (oneLt_int h)]
theorem DJ{key:Nat->Int}:∀{as:L7} (_:lM h as key),∃fs,KatTups h (as.map Value.ref) fs/\⇑fs=⇑as/\∀v∈fs,∃n t,v=Value.int n t
 | [],_=>#[[],KatTups.nil,rfl,λv g=>nomatch g]
 | a::r,x=>by
  let⟨o,t,u,n,q,c,d⟩:=x 0 a rfl;let⟨fs,k,l,f⟩:=DJ (key:=λi=>key (i+1)) (as:=r) λi b e=>x (i+1) b #v[e]
  erw[.int (key 0) t::fs,KatTups.cons q c d rfl k,by rw[vQ,l,vQ],λv g=>?_];rcases mem_cons.mp g with rfl | g
  .exact#[_,_,rfl]
  .exact f v g
def LF(vs:L9):(vs.toArray.zip vs.toArray).map (·.2)=vs.toArray:=by
 apply Array.toList_inj.mp;rw[Array.toList_map,Array.toList_zip];rwa[List.map_snd_zip (vb _)]
def GY(vs:L9):(List.range ⇑vs).map (λi=>vs.getD i Value.none)=vs:=by
 erw[ext_getElem (by simp) λi b a=>?_]
 rw[getElem_map,getElem_range,vy,vz a];rfl
def HY:∀{l:L5},⇑l<2->l.Pairwise (·<=·)
 | [],_=>.nil
 | [_],_=>pairwise_singleton _ _
 | _::_::_,h=>uf h (by rw[vQ,vQ];lia)
def K3{key:Nat->Int}{P:PySem.Fin->Shared->Prop}(d:s.heap.get? a⊂(seqObj "list" (as.map Value.ref).toArray c0))(S:a∉as)(x:lM s.heap as key)
  (U:∀i j,i<⇑as->j<⇑as->key i=key j->i=j) (O:⇑as<64)
  (D:∀(q:L6) (h':Heap) (c:Nat),q.Perm (List.range ⇑as)->(q.map key).Pairwise (·<=·)->(∀b o,b≠a->s.heap.get? b⊂o->h'.get? b⊂o)->
   h'.get? a⊂(seqObj "list" ((q.map λi=>as∘i).map Value.ref).toArray c)->P (.done (.ret .none)) {s with heap:=h'}) :
  wpAny (model prog w) A (Builtin.«list.sort» #[[.ref a],[]]) P E s:=by
 have a5:a<s⁻¹:=vI d;obtain⟨u,k⟩:∃u,(s.heap.update a (Obj.mapSeq λ_=>(#[]:Array Value))).get? a⊂(seqObj "list" #[] u):=#[_,get?_update_seq d λ_=>#[]]
 have X:=Heap.SameBut.update s.heap a (Obj.mapSeq λ_=>(#[]:Array Value));rw[list_sort_plain];erw[uh (listItems_at (s:=s) d rfl ?_)];erw[uh (listUpdate_at (s:=s) d rfl ?_ (by rw[size_toArray,vt,sizeLine_eq];lia) (va _))];erw[uh (seqEpoch_at (n:=u) k rfl ?_)];erw[uh (wpAny_newTuple ?_ (by show(as.map Value.ref).length<=_;rw[vt,sizeLine_eq];lia))];erw[uh (wpAny_newList ?_ (va (sizeLine)))];erw[wpAny_holding ?_];generalize Y:((s.heap.update a (Obj.mapSeq λ_=>(#[]:Array Value))).push (seqObj "tuple" (as.map Value.ref).toArray 0)).push (seqObj "list" #[] 0)=hX;have kX:∀b o,b≠a->s.heap.get? b⊂o->hX.get? b⊂o:=λb o y e=>by
  rw[<-Y];rwa[vJ _ (vJ _ ((X.2 b y).trans e))]
 have F:hX.get? a⊂(seqObj "list" #[] u):=by
  rw[<-Y];rwa[vJ _ (vJ _ k)]
 have xX:lM hX as key:=x.keep λb y o e=>kX b o (λz=>S (z▸y)) e
 show wpAny (model prog w) A _ P E {s with heap:=hX};dsimp only;have K:(as.map Value.ref).toArray.size=⇑as:=by rw[size_toArray,vt]
 have H:∀q:L6,q.Perm (List.range ⇑as)->(List.map (λi=>(as.map Value.ref).getD i Value.none) q)=(q.map λi=>as∘i).map Value.ref:=λq M=>by
  rw[v6];erw[map_congr_left λi B=>?_]
  have hl:i<⇑as:=v4.mp (M.mem_iff.mp B);show(as.map Value.ref).getD i Value.none=Value.ref (as∘i);rw[vy,vy,vv,vz hl];rfl
 have g:∀(q:L6),q.Perm (List.range ⇑as)->(q.map key).Pairwise (·<=·)->∀r:Array Value,r=(List.map (λi=>(as.map Value.ref).getD i Value.none) q).toArray->
   P (.done (.ret .none)) {s with heap:=hX.update a (Obj.mapSeq λ_=>r)}:=λq M hs r ho=>by
  subst ho;have o2:=get?_update_seq F λ_=>(List.map (λi=>(as.map Value.ref).getD i Value.none) q).toArray
  have J:=Heap.SameBut.update hX a (Obj.mapSeq λ_=>(List.map (λi=>(as.map Value.ref).getD i Value.none) q).toArray);rw[H q M]at o2 J|-;rwa[D q _ _ M hs (λb o y e=>(J.2 b y).trans (kX b o y e)) o2]
 by_cases l:(as.map Value.ref).toArray.size<2
 .rw[vd l,vd l];erw[uh (ug ?_)];rw[StateT.run_pure];erw[uh (ug ?_)];dsimp only;erw[uh (seqEpoch_at (n:=u) F rfl ?_)];have eo:(arrOf (SortSt.mk' general' ((as.map Value.ref).toArray.zip (as.map Value.ref).toArray) #[] 7 none)).map (·.2)=(List.map (λi=>(as.map Value.ref).getD i Value.none) (List.range ⇑as)).toArray:=by
   have e:=GY (as.map Value.ref);rw[vt]at e;rw[e];rwa[LF _]
  rw[eo];erw[uh (listUpdate_at (s:={s with heap:=hX}) F rfl ?_ (va _) (by rw[size_toArray,vt,length_range,sizeLine_eq];lia))];simp only[bne_self_eq_false,Bool.false_eq_true,if_false];erw[ug (g (List.range ⇑as) (List.Perm.refl _) ?_ _ rfl)];rw[K]at l;rwa[HY (by rw[vt,length_range];rwa[l])]
 .rw[vc l,vc l];rw[K]at l;let⟨fs,kt,kl,ki⟩:=DJ xX;have a0:hX=({s with heap:=hX}:Shared).heap:=rfl;refine uh (kat_kind (s:={s with heap:=hX}) (T:=Value.type "int") kt ⋯ (λv hv=>?_) nofun ?_)
  .let⟨m,t,rfl⟩:=ki v hv;rwa[Looks.of_pure rfl]
  refine uh (wpAny_mono (kat_run (s:={s with heap:=hX}) (ks:=as.map Value.ref) (vs:=as.map Value.ref) (κ:=tuples' true) (Q:=λf I=>∃p:Array Nat,Pk ⇑as p/\Up key p ⇑as/\arrOf f=p.map (kas_item ((as.map Value.ref).toArray.zip (as.map Value.ref).toArray))/\failedOf f=none/\I={s with heap:=hX}) (G:=λp I=>Pk ⇑as p/\Up key p ⇑as/\I={s with heap:=hX})
   rfl (by rw[vt];lia) (by rw[vt];rwa[O]) (λp f I _ a2 a3 N=>#[p,N.1,N.2.1,a2,a3,N.2.2]) ?_) ?_ λ_ _ e=>e)
  .rw[vt];rwa[Tw.run (n:=⇑as) (key:=key) (λi j C B L hC=>M4 xX U B L hC) (Tw.mono (λq h=>#[h.1,h.2,rfl]) (MN (key:=key) ⋯))]
  rintro⟨⟨⟩,f⟩ I ⟨p,Z,hu,R,hf,rfl⟩;dsimp only;rw[kat_snds rfl R];erw[uh (seqEpoch_at (n:=u) F rfl ?_)];have W:=Z.size;erw[uh (listUpdate_at (s:={s with heap:=hX}) F rfl ?_ (va _) (by rw[size_toArray,vt,Array.length_toList,W,sizeLine_eq];lia))];rw[hf];simp only[bne_self_eq_false,Bool.false_eq_true,if_false];erw[ug (g p.toList Z ?_ _ rfl)];erw[pairwise_map.mpr (pairwise_iff_getElem.mpr λi j B L a1=>?_)];rw[Array.length_toList]at B L;have:=hu i j ⋯ ⋯;unfold kv at this;rw[Array.getD_eq_getD_getElem?,Array.getD_eq_getD_getElem?,Array.getElem?_eq_getElem B,Array.getElem?_eq_getElem L]at this;rwa[this]
end
open PySem PySem.Spec PySem.W PyProof.Rows
section
variable{X:Cx}{pins:Ny}{σ:St}{H:Hp}{s:Shared}
def nN(X:Cx)(pins:Ny)(T:Addr):Prop:=X.s₀.heap.objs.size<=T/\T≠X.env.locals/\(∀x c,X.env.cells.lookup x⊂c->c≠T)/\∀p∈X.pn++pins,p.1≠T
def Inv.BF(I:Inv X pins σ H s)(a:s⁻¹<=T):nN X pins T:=by
 let⟨q,b,q,q,c,d⟩:=I.fY (H':=λq=>none) a rfl;rwa[vW I.sz a,b,c,d]
def cm.obj(x:cm P w H h a o):∃u,h.get? a⊂u:=by
 cases o with
 | lst xs=>let⟨q,q,q,q,e⟩:=x;rwa[_,e]
 | tup xs=>let⟨q,q,q,u,e,q⟩:=x;rwa[u,e]
 | dK kvs=>let⟨q,q,q,q,u,q,q,e,q⟩:=x;rwa[u,e]
 | dT kvs=>let⟨q,q,q,q,u,q,q,e,q⟩:=x;rwa[u,e]
 | set S n=>let⟨u,q,q,q,e,q⟩:=x;rwa[u,e]
 | ins C dx fs=>let⟨q,q,q,e,q⟩:=x;rwa[_,e]
 | own y=>rwa[x]
 | xd fs=>let⟨q,⟨u,q,q,e,q⟩,q⟩:=x;rwa[u,e]
 | ue lo hi=>let⟨q,q,q,e⟩:=x;rwa[_,e]
 | gM u v=>rwa[_,x.1]
 | pq ps=>rwa[_,x]
 | met f y=>rwa[_,x]
 | ext φ=>rwa[x.2.1]
def Inv.mO{a:Heap}(I:Inv X pins σ H s)(c:∀b o,s.heap.get? b⊂o->a.get? b⊂o):H a.objs.size=none:=by
 cases e:H a.objs.size with
 | none=>rfl
 | some u=>
  let⟨v,q⟩:=(I.cv _ _ e).obj;rwa[uf (vI (c _ _ q)) (Nat.lt_irrefl _)]
def Inv.tV{a:Heap}(I:Inv X pins σ H s)(h:∀b o,s.heap.get? b⊂o->a.get? b⊂o):nN X pins a.objs.size:=by
 have f:∀b o,s.heap.get? b⊂o->b<a.objs.size:=λb o e=>vI (h b o e)
 let⟨m,⟨o,q,q,d,q⟩,q⟩:=I.loc;have g:=f _ _ d;erw[vY (vD I.ok.above g),vO g,λx c e=>?_,λp i=>vE (f _ _ (I.pin p i).1)];let⟨v,o,d,q⟩:=I.cell x c e;rwa[vE (f _ _ d)]
def Inv.rp(I:Inv X pins σ H s)(h:H T=none)(d:nN X pins T)(g:cm X.prog X.w (upd H T o) s.heap T o):Inv X pins σ (upd H T o) s:=by
 have a:∀b u,H b⊂u->b≠T:=λb u e z=>by rw[z,h]at e;cases e
 refine I.step (h':=s.heap) (H':=upd H T o) (g':=s.gens) (d':=s.drawn) (t':=s.toks) (ch:=[T]) (λb f=>?_) (λb o Z Z Z e Z=>e) (λb o Z Z Z e Z=>#[o.slots,e]) (λb u f Z n=>?_) (λb u Z e=>#[u,e])
  (λb k e=>(jh (a _ _ e)).trans e) (λb u v e=>(jh (a _ _ e)).trans e) (λb j e=>#[#[],by rw[jh (a _ _ e),e];simp]) (λm i=>i) (λb u e=>?_) I.bare
 .have e:b=T:=by simpa using f
  subst e;rwa[.inr d.1,d.2.1,d.2.2.1,d.2.2.2]
 .exact(jh λz=>f (by simp[z])).trans n
 .by_cases z:b=T
  .subst z;rw[jA]at e;cases e;rwa[g]
  .rw[jh z]at e;rwa[(I.cv b u e).hW (λc v Z q=>q) (λc q=>(jh (a _ _ q)).trans q) λc l q=>(jh (a _ _ q)).trans q]
theorem Inv.lU:∀(e:List (Addr×HO)) {H:Hp},Inv X pins σ H s->(∀p∈e,H p.1=none/\nN X pins p.1/\∀H',cm X.prog X.w H' s.heap p.1 p.2)->(e.map (·.1)).Nodup->∃H',Inv X pins σ H' s/\bU H H'/\∀p∈e,H' p.1⊂p.2
 | [],H,I,_,_=>#[H,I,bU.refl _,λp d=>nomatch d]
 | w::r,H,I,h,nd=>by
  let⟨a,b,c⟩:=h w vq;rw[v9,uo]at nd;have g:=I.rp a b (c _);let⟨H',i,f,m⟩:=Inv.lU r g (λp d=>by
   let⟨j,k,l⟩:=h p (vp _ d);rwa[(jh λz:p.1=w.1=>nd.1 (by rw[<-z];rwa[vK.mpr #[p,d,rfl]])).trans j,k,l]) nd.2
  have n:bU H (upd H w.1 w.2):=λb u q=>(jh (je q a)).trans q
  erw[H',i,n.trans f,λp d=>?_];rcases mem_cons.mp d with rfl | d
  .exact f _ _ jA
  .exact m p d
end
section
variable{X:Cx}
theorem rq:∀as:L7,Vals (as.map V.ref) (as.map Value.ref)
 | []=>.nil
 | _::r=>.cons rfl (rq r)
def KV.get{κ:Type}:∀{kvs:List (κ×V)} {vs:List (κ×Value)} {i:Nat} {p:κ×V},KV kvs vs->kvs[i]?⊂p->∃q,vs[i]?⊂q/\p.1=q.1/\RelV p.2 q.2:=by
 intro kvs vs i p h e
 induction h generalizing i with
 | nil=>simp at e
 | cons r t ih=>cases i with
  | zero=>simp at e;subst e;rwa[_,rfl,r]
  | succ i=>rwa[ih #v[e]]
def Gy:sT X "dict.update" (λx vs H Q=>∃d o kvs more,x = .ref d/\vs=[.ref o]/\H d⊂.dK kvs/\H o⊂.dK more/\d≠o/\⇑kvs+⇑more<=sizeLine/\Q .cV (upd H d (.dK (cG kvs more)))):=by
 intro l s G H x vs v D Q I B A h;let⟨d,o,kvs,more,rfl,rfl,k,p,g,y,q⟩:=h;cases B;let⟨u,rfl,z⟩:=vals1 A;cases z;let⟨E,e,i,m,b⟩:=Wj I.cv k;let⟨F,f,j,n,c⟩:=Wj I.cv p;erw[call_meetsIn PySem.F.slot_dict_update b.typeIs PySem.F.entry_dict_update (PySem.F.args_dict_update_2 _ _) (meets_dict_update (cb X.prog X.w) d o g f) #[i,j,b,c,by rw[<-⇑m,<-⇑n];rwa[y],λr a Z w=>?_]];have t:∃q,r.get? d⊂q:=let ⟨q,_,_,hq,_⟩:=a;#[q,hq];have C:=Qg more kvs;rwa[.cV,_,YG (t':=s.toks) I (by rw[k];rwa[True.intro]) w t (KM ⋯ e (n.merge m) a),rfl,q]
noncomputable def mJ(v d:Addr):HO:=.ext λh=>h.get? v=some {cls:=.type "dict_items",data:=.fields #[.ref d]}
def Ik:sT X "dict.items" (λx vs H Q=>∃d kvs,x = .ref d/\vs=[]/\H d⊂.dK kvs/\∀v,H v=none->Q (.ref v) (upd H v (mJ v d))):=by
 intro i s y H x vs v t Q I m l h;let⟨d,kvs,rfl,rfl,j,q⟩:=h;cases m;have f:=l.zero;subst f;let⟨w,c,g,r,a⟩:=Wj I.cv j;erw[call_meetsIn PySem.F.slot_dict_items a.typeIs PySem.F.entry_dict_items (PySem.F.args_dict_items_1 (.ref d)) (meets_dict_items (cb X.prog X.w) d c) #[#[g,a],?_]];have e:(s.heap.push {cls:=.type "dict_items",data:=.fields #[.ref d]}).get? s⁻¹=some {cls:=.type "dict_items",data:=.fields #[.ref d]}:=Heap.get?_push_size _ rfl;rwa[.ref s⁻¹,_,I.laid (t':=s.toks) (o:=mJ s⁻¹ d) (λb u q=>vJ _ q) (vb _) (show cm X.prog X.w _ _ _ (mJ s⁻¹ d)from#[e,#[_,e],λn p q k=>k _ q]),rfl,q _ (I.cv.fresh (vb _))]
noncomputable def i5(p:Int×Int):Key×V:=(Sum.inl p.1,.int p.2)
def XD(hc:X.calm=true):c8 X (.builtin "sorted") (λxs H Q=>∃(v d:Addr) (kvs:Np),xs=[.ref v]/\H v⊂(mJ v d)/\H d⊂(.dK (kvs.map i5))/\⇑kvs<64/\
  ∀(l:Addr) (as:L7) (ms:Np) (H':Hp),bU H H'->H l=none->H' l⊂(.lst (as.map V.ref))->(∀a∈as,H a=none)->ms.Perm kvs->(ms.map (·.1)).Pairwise (·<=·)->⇑as=⇑ms->(∀(i:Nat) (a:Addr) (p:Int×Int),as[i]?⊂a->ms[i]?⊂p->H' a⊂(.tup [.int p.1,.int p.2]))->Q (.ref l) H'):=by
 intro y s σ H xs us Q I r h;let⟨v,d,kvs,rfl,ev,ed,Z,q⟩:=h;let⟨u,rfl,ru⟩:=vals1 r;cases ru;let⟨z1,a4,N,r1,G⟩:=Wj I.cv ed;have hv:s.heap.get? v=some {cls:=.type "dict_items",data:=.fields #[.ref d]}:=(I.cv v _ ev).1;let⟨ep,da⟩:=G.dictAt;have lv:=⇑r1;rw[vt]at lv;have nd:(kvs.map (·.1)).Nodup:=by
  have R:(N.map (·.1)).Nodup:=let ⟨_,_,_,_,_,_,_,_,hn⟩:=G;hn;rw[<-r1.keys,v6]at R;erw[pairwise_map.mpr ((pairwise_map.mp R).imp λ{a b} h e=>h ?_)];show(Sum.inl a.1:Key)=Sum.inl b.1;rw[e]
 erw[Calls.call_function_entry kind_sorted plain_sorted entry_sorted (args_sorted1 (.ref v)) ?_];unfold Builtin.«sorted»;erw[uh (m:=checkCount "sorted" 1 1 1) (ug ?_)];erw[uh (kdx_collect (knd:=cb X.prog X.w) (kvs:=N) (ep:=ep) (A:=X.A.in1) (I.ok.hd hc) #[_,hv,rfl,rfl] da (by rw[<-lv,sizeLine_eq];lia) λg tk as P C J=>?_)];rw[<-lv]at C;erw[uh (wpAny_newList ?_ (by rw[vt,C,sizeLine_eq];lia))];have K:(g.push (seqObj "list" (as.map Value.ref).toArray 0)).get? g.objs.size⊂(seqObj "list" (as.map Value.ref).toArray 0):=Heap.get?_push_size _ rfl;have D:g.objs.size∉as:=λz=>Nat.lt_irrefl _ (J.there z)
 have E:∀i p,kvs[i]?⊂p->(λi=>(kvs.getD i (0,0)).1) i=p.1/\(λi=>(kvs.getD i (0,0)).2) i=p.2:=λi p e=>by
  dsimp only;rw[vy,e];rwa[rfl,rfl]
 have xQ:∀i a,as[i]?⊂a->∃t u,(g.push (seqObj "list" (as.map Value.ref).toArray 0)).get? a=some {cls:=.type "tuple",data:=.seq [.int ((λi=>(kvs.getD i (0,0)).1) i) t,.int ((λi=>(kvs.getD i (0,0)).2) i) u].toArray}:=λi a e=>by
  let⟨ky,k,x,O,w,e3⟩:=J.pairs i a e;have f:i<⇑kvs:=by rw[<-C];rwa[(vx.mp e).1]
  let⟨w',e4,a3⟩:=KV.get r1 (i:=i) (p:=i5 kvs[i]) (by rw[vv,vz f];rfl);rw[O]at e4;cases e4;let⟨ek,S,ex⟩:=a3;have T:k=Sum.inl kvs[i].1:=ek.symm;subst T;have U:x = .int kvs[i].2 S:=ex;subst U;let⟨W,Y⟩:=E i _ (vz f);rw[show(λi=>(kvs.getD i (0,0)).1) i=kvs[i].1 from W,show(λi=>(kvs.getD i (0,0)).2) i=kvs[i].2 from Y];rcases Jk (show fU (Sum.inl kvs[i].1) ky=true from w)with⟨n,t,q1,q2⟩ | ⟨n,t,q1,q2⟩
  .cases q1;subst q2;rwa[t,S,vJ _ e3]
  .cases q1
 have xP:lM (g.push (seqObj "list" (as.map Value.ref).toArray 0)) as (λi=>(kvs.getD i (0,0)).1):=λi a e=>by
  let⟨t,u,z⟩:=xQ i a e;rwa[_,t,_,_,z,rfl,rfl]
 have a0:∀i j,i<⇑as->j<⇑as->(λi=>(kvs.getD i (0,0)).1) i=(λi=>(kvs.getD i (0,0)).1) j->i=j:=λi j f B e=>by
  rw[C]at f B;let⟨W,_⟩:=E i _ (vz f);let⟨Y,_⟩:=E j _ (vz B);rw[W,Y]at e;rcases Nat.lt_trichotomy i j with z | z | z
  .exact uf e (by have:=pairwise_iff_getElem.mp nd i j (by rw[vt];rwa[f]) (by rw[vt];rwa[B]) z;simpa using this)
  .exact z
  .exact uf e.symm (by have:=pairwise_iff_getElem.mp nd j i (by rw[vt];rwa[B]) (by rw[vt];rwa[f]) z;simpa using this)
 erw[uh (wpAny_holding (wpAny_call_entry slot_list_sort #[_,K,rfl] entry_list_sort (K3 (s:={s with heap:=g.push (seqObj "list" (as.map Value.ref).toArray 0),toks:=tk}) K D xP a0 (by rw[C];rwa[Z]) λM F c hq hs kk o2=>#[_,rfl,?_]) (args_list_sort _)))];erw[ug #[_,rfl,?_]];have a1:∀b o,s.heap.get? b⊂o->b<g.objs.size:=λb o e=>vI (P b o e)
 have k2:∀b o,s.heap.get? b⊂o->F.get? b⊂o:=λb o e=>kk b o (vE (a1 b o e)) (vJ _ (P b o e))
 have I2:Inv X y σ H {s with heap:=F,toks:=tk}:=I.kept (t':=tk) k2;have hB:H g.objs.size=none:=I.mO P;have nB:=I.tV P;have ha:∀a∈as,H a=none/\nN X y a:=λa h=>#[I.cv.fresh (vY (J.above a h)),I.BF (vY (J.above a h))]
 have L:∀i∈M,i<⇑as:=λi f=>v4.mp (hq.mem_iff.mp f)
 have a2:(((g.objs.size,HO.lst ((M.map λi=>as∘i).map V.ref))::(List.range ⇑as).map λi=>(as∘i,HO.tup [.int (kvs.getD i (0,0)).1,.int (kvs.getD i (0,0)).2])).map (·.1)).Nodup:=by
  rw[v9,uo,v6];have w:(List.range ⇑as).map (Function.comp (λx=>x.1) λi=>(as∘i,HO.tup [.int (kvs.getD i (0,0)).1,.int (kvs.getD i (0,0)).2]))=as:=ext_getElem (by simp) λi g F=>by
   rw[getElem_map,getElem_range];show as∘i=_;rw[vy,vz F];rfl
  rw[w];rwa[D,J.rise.imp λh=>vE h]
 let⟨H',I3,s3,k3⟩:=I2.lU ((g.objs.size,HO.lst ((M.map λi=>as∘i).map V.ref))::(List.range ⇑as).map λi=>(as∘i,HO.tup [.int (kvs.getD i (0,0)).1,.int (kvs.getD i (0,0)).2])) (λp hp=>by
  rcases mem_cons.mp hp with rfl | hp
  .refine#[hB,nB,λH'=>#[?_,_,c,rq _,o2]];rw[vt,vt,hq.length_eq,length_range,C,sizeLine_eq];lia
  .let⟨i,f,rfl⟩:=vK.mp hp;have f:=v4.mp f;have e:as[i]?⊂(as∘i):=by rw[vy,vz f];rfl
   let⟨t1,S,eo⟩:=xQ i _ e;have hm:=vm e;let⟨R,n2⟩:=ha _ hm;rwa[R,n2,λH'=>#[(by show 2<=sizeLine;decide),[_,_],.cons #[t1,rfl] (.cons #[S,rfl] .nil),#[_,kk _ _ (λz=>D (z▸hm)) eo,rfl,_,rfl]]]) a2
 .refine#[.ref g.objs.size,H',I3,rfl,q g.objs.size (M.map λi=>as∘i) (M.map λi=>kvs.getD i (0,0)) H' s3 hB (k3 _ vq) (λa h=>?_) ?_ ?_ (by rw[vt,vt]) λi a p O w=>?_]
  .let⟨i,f,rfl⟩:=vK.mp h;have e:as[i]?⊂(as∘i):=by rw[vy,vz (L i f)];rfl
   rwa[(ha _ (vm e)).1]
  .have e:=hq.map λi=>kvs.getD i (0,0)
   rw[C]at e;have w:(List.range ⇑kvs).map (λi=>kvs.getD i (0,0))=kvs:=ext_getElem (by simp) λi g F=>by
    rw[getElem_map,getElem_range,vy,vz F];rfl
   rw[w]at e;rwa[e]
  .rw[v6];rwa[hs]
  .rw[vv]at O w;let⟨j,B,rfl⟩:=vg.mp O;rw[B]at w;cases w;rwa[k3 _ (vp _ (vK.mpr #[j,v4.mpr (L j (vm B)),rfl]))]
end
theorem Qv:∀{as:L7} {us:L9},Vals (as.map V.ref) us->us=as.map Value.ref
 | [],_,r=>by cases r;rfl
 | a::as,_,r=>by
  cases r with
  | cons r1 r2=>rw[Qv r2,show _=Value.ref a from r1];rfl
theorem CC:∀{as:L7} {kvs:Np},⇑as=⇑kvs->(∀(i:Nat) (a:Addr) (q:Int×Int),as[i]?⊂a->kvs[i]?⊂q->∃t u,IsTup h a [.int q.1 t,.int q.2 u].toArray)->
  ∃ps:List (Key×Value),KV (kvs.map i5) ps/\⇑ps=⇑kvs/\∀(j:Nat) (kv:Key×Value),ps[j]?⊂kv->∃a key,as[j]?⊂a/\IsTup h a [key,kv.2].toArray/\fU kv.1 key=true
 | [],[],_,_=>#[[],.nil,rfl,λj kv e=>by simp at e]
 | [],_::_,l,_=>by simp at l
 | _::_,[],l,_=>by simp at l
 | a::as,q::kvs,l,f=>by
  let⟨ps,o,p,r⟩:=CC (as:=as) (kvs:=kvs) #v[l] λi a q m n=>f (i+1) a q #v[m] #v[n]
  let⟨t,u,e⟩:=f 0 a q rfl rfl;erw[(Sum.inl q.1,.int q.2 u)::ps,.cons #[rfl,u,rfl] o,by rw[vQ,p,vQ],λj kv c=>?_];cases j with
  | zero=>simp at c;subst c;rwa[a,_,rfl,e,xT _ _]
  | succ j=>let⟨b,s,d,g,k⟩:=r j kv #v[c];rwa[b,s,#v[d],g,k]
section
variable{X:Cx}
def Fu(G:X.calm=true):c8 X (.type "dict") (λxs H Q=>∃(p:Addr) (as:L7) (kvs:Np),xs=[.ref p]/\H p⊂(.lst (as.map V.ref))/\⇑as=⇑kvs/\
  (∀(i:Nat) (a:Addr) (q:Int×Int),as[i]?⊂a->kvs[i]?⊂q->H a⊂(.tup [.int q.1,.int q.2]))/\∀d,H d=none->Q (.ref d) (upd H d (.dK (cG [] (kvs.map i5))))):=by
 intro M s σ H xs us Q I r h;let⟨p,as,kvs,rfl,Z,B,ht,q⟩:=h;let⟨u,rfl,ru⟩:=vals1 r;cases ru;let⟨z,D,n,rv,lv,e⟩:=I.lC Z;have W:=Qv rv;subst W;rw[vt]at z;have J:p<s⁻¹:=vI e;let⟨ps,kp,N,pt⟩:=CC (h:=s.heap) B λi a q S U=>by
  let⟨_,D,r',t'⟩:=I.cv a _ (ht i a q S U);cases r' with
  | cons ra rr=>
   cases rr with
   | cons rb rr=>
    cases rr;let⟨t1,rfl⟩:=ra;let⟨t2,rfl⟩:=rb;rwa[t1,t2,t']
 erw[callType_codes (Q₁:=λt g=>t = .ref s⁻¹/\g={s with heap:=s.heap.push {cls:=.type "dict",data:=.dict #[]}}) PySem.F.kt_called_dict (PySem.F.kt_typeCall_dict_1 (.ref p)) PySem.F.entry_dict_init (kt_code_dict_new (.ref p) #[rfl,rfl]) ?_];rintro t g ⟨rfl,rfl⟩;have c:(s.heap.push {cls:=.type "dict",data:=.dict #[]}).DictOf (cb X.prog X.w) s⁻¹ []:=Heap.DictOf.new s.heap;have v:∀b o,s.heap.get? b⊂o->(s.heap.push {cls:=.type "dict",data:=.dict #[]}).get? b⊂o:=λb o e=>vJ _ e
 generalize s.heap.push {cls:=.type "dict",data:=.dict #[]}=h0 at c v;erw[c.typeIs (s:={s with heap:=h0}),PySem.F.args_dict_init_2 _ _,?_];unfold Builtin.«dict.__init__»;erw[uh ?_];unfold Builtin.Dict.selfAndRest;erw[uh (wpAny_notOrdered_dict (c.typeIs (s:={s with heap:=h0})) ?_)];show wpAny (model X.prog X.w) _ (pure (s⁻¹,[Value.ref p])) _ _ _;erw[ug ?_];show wpAny (model X.prog X.w) _ (Builtin.Dict.updateFrom "dict.__init__" s⁻¹ (.ref p) [] .none) _ _ _;unfold Builtin.Dict.updateFrom;erw[uh (wpAny_typeOf (T:="list") #[_,v _ _ e,rfl] ?_)];rw[vd nofun];erw[uh (og (s:={s with heap:=h0}) (v _ _ e) rfl rfl rfl (I.ok.hd G) λm tk K=>?_)];rw[vd (show(none:Nv).isNone=true from rfl)];have f:∀b o,s.heap.get? b⊂o->m.get? b⊂o:=λb o e=>K b o (v b o e)
 have k:m.DictOf (cb X.prog X.w) s⁻¹ []:=c.keep K;have w:s⁻¹<m.objs.size:=by let⟨_,_,_,hg,_⟩:=k;rwa[vI hg]
 have lp:p<m.objs.size:=vZ J w;erw[uh (wpAny_rule ?_)];erw[uh (wpAny_pyIter_list (l:=p) (items:=(as.map Value.ref).toArray) #[_,f _ _ e,rfl,n,rfl] ?_)];erw[ug #[plainId_quiet Z7 _,?_]];refine Al (knd:=cb X.prog X.w) (A:=X.A.in1) (d:=s⁻¹) (it:=m.objs.size) (l:=p) (items:=as.map Value.ref) (res:=.none) (I.ok.hd G) (vE w) (vO J) (vO lp) ps 0 [] _
  #[_,Heap.get?_push_size _ rfl,rfl,rfl] #[_,vJ _ (f _ _ e),rfl,n,rfl] (by rw[vt,B,N,Nat.zero_add]) (λj kv Y=>?_) (k.push _) (by rw[length_nil,N,<-B,Nat.zero_add];rwa[z]) λh2 E k2 x=>?_
 .let⟨a,ky,O,⟨o,F,P⟩,R⟩:=pt j kv Y;have L:a<s⁻¹:=vI F;rwa[a,ky,by rw[Nat.zero_add,vv,O];rfl,#[o,vJ _ (f _ _ F),P],R,vE L,vE (vZ L w)]
 .refine#[rfl,.ref s⁻¹,upd H s⁻¹ (.dK (cG [] (kvs.map i5))),I.laid (t':=E) (λb o y=>k2 b o (vE (vI y)) (vE (vZ (vI y) w)) (vJ _ (f _ _ y))) (vb _) ?_,rfl,q _ (I.cv.fresh (vb _))];have hm:=Qg (kvs.map i5) [];rw[length_nil,vt]at hm;have C:(s⁻¹==sysModules)=false:=by
   rw[beq_eq_false_iff_ne];rwa[vO I.big]
  rwa[KM ⋯ C (kp.merge .nil) x]
end
theorem wJ{H:Hp}:∀(ks:L5),hJ H (ks.map V.int) (ks.map PyData.int)
 | []=>.nil
 | k::r=>.cons (.int k) (wJ r)
def IP(ks:L5):PyData.eqv (.list (ks.map PyData.int)) (.list [])=decide (ks=[]):=by
 cases ks<;>simp[PyData.eqv,PyData.eqvAll]
def Nm(R:X.A.units+64<cLine):fH X (compareOp .In) (λx y H Q=>∃(a l:Addr) (as:L7) (hs:L1),x = .ref a/\y = .ref l/\H a⊂(.lst [])/\H l⊂(.lst (as.map V.ref))/\⇑as=⇑hs/\
  (∀(i:Nat) (b:Addr) (ks:L5),as[i]?⊂b->hs[i]?⊂ks->H b⊂(.lst (ks.map V.int)))/\Q (.bl (hs.any λks=>decide (ks=[]))) H):=by
 intro n s T H x y v u Q I K L h;let⟨a,l,as,hs,rfl,rfl,p,A,P,C,q⟩:=h;cases K;cases L;let⟨E,r,F,S⟩:=I.list (bV.of A);have t:=Qv r;subst t;let⟨M,G⟩:=zY I (DV.lst p .nil) (show RelV (.ref a) (.ref a)from rfl)
 classical
 have o:∀(i:Nat) (b:Addr) (ks:L5),as[i]?⊂b->hs[i]?⊂ks->∃c,Reads s.heap (.ref b) (.list (ks.map PyData.int)) c:=λi b ks d f=>zY I (DV.lst (C i b ks d f) (wJ ks)) (show RelV (.ref b) (.ref b)from rfl)
 have m:∀(i:Nat) (b:Addr) (ks:L5),as[i]?⊂b->hs[i]?⊂ks->decide (∃c,Reads s.heap (.ref b) (.list []) c)=decide (ks=[]):=λi b ks d f=>by
  let⟨c,k⟩:=o i b ks d f;rw[decide_eq_decide];constructor
  .rintro⟨N,J⟩;have e:=SeqAt.Reads.unique _ _ _ _ _ (show PyData.canLay0 (.list [])=true from rfl) J k
   simp_all
  .rintro rfl;rwa[c,k]
 erw[SeqAt.in_listAt (λw=>decide (∃c,Reads s.heap w (.list []) c)) F.isList (λw j=>?_) #[.bl _,H,I,rfl,?_]]
 .let⟨i,g,e⟩:=mem_iff_getElem.mp (show w∈as.map Value.ref by simpa using j);rw[getElem_map]at e;rw[vt]at g;subst e;have d:as[i]?⊂as[i]:=vz g;have f:hs[i]?⊂hs[i]:=vz ⋯;let⟨c,k⟩:=o i _ _ d f;have z:=SeqAt.eqAt_reads _ _ X.A.in1 s _ _ _ _ k G (by show PyData.canLayAll0 _=true;rwa[ke_canLayAll0 _]) rfl (by
   show X.A.in1.units+min (PyData.depthAll _+1) (0+1)<cLine;have O:X.A.in1.units=X.A.units+1:=rfl;lia)
  rw[IP,<-m i _ _ d f]at z;rwa[z]
 .have e:(as.map Value.ref).toArray.any (λw=>decide (∃c,Reads s.heap w (.list []) c))=hs.any λks=>decide (ks=[]):=by
   rw[List.any_toArray,List.any_map,Bool.eq_iff_iff,any_eq_true,any_eq_true];constructor
   .rintro⟨b,B,j⟩;let⟨i,g,rfl⟩:=mem_iff_getElem.mp B;rwa[hs[i],getElem_mem _,by rw[<-m i _ _ (vz g) (vz ⋯)];rwa[j]]
   .rintro⟨ks,D,j⟩;let⟨i,g,rfl⟩:=mem_iff_getElem.mp D;erw[as[i],getElem_mem _,?_];show decide _=true;rw[m i _ _ (vz ⋯) (vz g)];rwa[j]
  rw[e];rwa[q]
def sx(K:cp)(a:Addr)(n:Nat):It:=
 #[λi H=>∃xs x,bV K H a xs/\i<n/\xs[n-1-i]?⊂x,λi H x H'=>H'=H/\∀xs,bV K H a xs->xs[n-1-i]?⊂x,λi q=>i=n]
def Lc{P:Program}{w:World}{K:cp}{tg:Expr}(a it:Addr)(n:Nat):Turn P w K tg (sx K a n) [it] it (λi h=>h.IsRevIter it a ((n:Int)-1-(i:Nat))) where
 mem:=by simp
 obj:=λi h f b j=>by
  have e:b=it:=by simpa using j
  subst e;let⟨o,e,c,d⟩:=f;rwa[o,e,λv z=>by rw[d]at z;cases z]
 keep:=λi h q f k=>f.at λo e=>k it (by simp) o e
 item:=by
  intro X F G D J i g s N H E I r f m;subst F G D;let⟨xs,x,L,U,M⟩:=m;let⟨Z,rv,p,hz⟩:=I.list L;let⟨u,W,ru⟩:=rv.get M;let⟨t,y,T,A,B,C⟩:=r it (by simp);have e:((n:Int)-1-(i:Nat))=((n-1-i:Nat):Int):=⋯
  rw[e]at f;erw[wpAny_pyNext_rev_item f p.isList (x:=u) #v[W] λq l sb=>?_]
  have O:Inv X g N H {s with heap:=q}:=I.turned (t':=s.toks) (λb o j e=>(sb.2 b j).trans e) t y A B C;have Q:(((n-1-i:Nat):Int)-1)=((n:Int)-1-((i+1:Nat):Int)):=⋯
  rw[Q]at l;let⟨o,S,c,d⟩:=id l;rwa[u,rfl,tH (s:={s with heap:=q}) S c d nofun #[x,H,O,ru,#[rfl,λys Y=>by rw[I.fv Y L];rwa[M]],l,λb j=>(r b j).1]]
 done:=by
  intro X F G D J i g s N H E I r f m;subst F G D;have m:i=n:=m;subst m;let⟨t,y,T,A,B,C⟩:=r it (by simp);rw[show((i:Int)-1-(i:Nat)) = -1 by lia]at f;rwa[wpAny_pyNext_rev_end (I.ok.hd J) f λq R=>#[rfl,I.turned (t':=s.toks) (λb o j e=>R b o j e) t y A B C]]
 self:=λ_ _ _ _ _ f h=>wpAny_pyIter_revIter f h
def tD(K:cp)(ta:TA):TI:=λσ H R=>ta σ H λvs H1=>∃a xs,vs=[.ref a]/\bV K H1 a xs/\R (sx K a ⇑xs) H1
def NH{X:Cx}{E a:Expr}{l:TA}{p j:Pos}(v:Gl X "reversed")(x:X.mg "reversed"= none)(r:PA X [a] l)(z:starEach [a] X.env=[(false,eval a X.env)]:=by rfl) :
  PI X E (.Call (.Name "reversed" p) [a] [] j) (tD X.K l):=by
 intro i s F H R I h;erw[Call_ (Zd I v x Fq (PyProof.Rows.callWith_type1 (cC (r j i s F H _ I h) λJ d z_=>?_) z rfl))];obtain⟨K,n,k,B,A⟩:=z_;let⟨b,m,rfl,y,q⟩:=A;let⟨u,rfl,C⟩:=vals1 B;cases C;let⟨g,D,p,G⟩:=k.list y;have w:=⇑D;erw[call_reversed_list p.isList ?_];have f:(d.heap.push (revObj b ((g.toArray.size:Int)-1))).IsRevIter d⁻¹ b ((⇑m:Int)-1-((0:Nat):Int)):=#[_,Heap.get?_push_size _ rfl,rfl,by rw[w];simp[revObj]]
 erw[wpAny_pyIter_revIter (s:={d with heap:=d.heap.push (revObj b ((g.toArray.size:Int)-1))}) f ?_];erw[d⁻¹,[d⁻¹],_,_,n,rfl,k.kept (t':=d.toks) λb o e=>vJ _ e,Lc b _ ⇑m,f,λc t=>?_,q];have e:c=d⁻¹:=by simpa using t
 subst e;rwa[k.fY (vb _) (k.cv.fresh (vb _))]
def IS{K:cp}{a:Addr}{xs:N2}{g:TG}{j:TS}{D:Ends}{b:St}{H:Hp}(c:Nat->St->Hp->Prop)(k:c 0 b H)(o:∀i b H,i<=⇑xs->c i b H->bV K H a xs)
  (r:∀i x b H,i<⇑xs->xs[⇑xs-1-i]?⊂x->c i b H->g x b H λf H2=>j {D with nx:=c (i+1),ct:=c (i+1),bk:=D.nx} f H2) (l:∀b H,c ⇑xs b H->D.nx b H) :
  ∃W:Nat->Nat->St->Hp->Prop,(∃m,W 0 m b H)/\∀i m b H,W i m b H->
   ((sx K a ⇑xs).stop i H/\D.nx b H)\/((sx K a ⇑xs).go i H/\∃N:St->Hp->Prop,(∀S' H',N S' H'->∃h,h<m/\W (i+1) h S' H')/\∀x H',(sx K a ⇑xs).lI i H x H'->g x b H' λf H2=>j {D with nx:=N,ct:=N,bk:=D.nx} f H2):=by
 erw[λi m b H=>m=⇑xs-i/\i<=⇑xs/\c i b H,#[⇑xs,by simp,va _,k],?_];rintro i m b H ⟨rfl,n,p⟩;have q:=o i b H n p;by_cases d:i<⇑xs
 .refine .inr #[#[xs,xs[⇑xs-1-i],q,d,vz ⋯],c (i+1),λS' H' s=>#[⇑xs-(i+1),⋯,rfl,d,s],λx H' y=>?_];let⟨e,y⟩:=y;subst e;rwa[r i x b _ d (y xs q) p]
 .have e:i=⇑xs:=⋯
  subst e;rwa[.inl #[rfl,l b H p]]
def rd_iRev{K:cp}{b:TA}{c:St}{H:Hp}{R:It->Hp->Prop}(h:b c H λvs H1=>∃a xs,vs=[.ref a]/\bV K H1 a xs/\R (sx K a ⇑xs) H1):tD K b c H R:=h
section
variable{X:Cx}
def uJ(K:cp)(ta:TE):TT:=λσ H Q=>ta σ H λx H'=>∃k,oQ K x H' k/\Q k H'
def MG{a:Expr}{c:TE}(d:PE X a c)(e:∀b,isTrue a X.env b=(do let v <-b;standAt a.pos;holding [v] (truthy v))):PT X a (uJ X.K c):=HV d e
end
def rd_tru{K:cp}{a:TE}{b:St}{H:Hp}{Q:Bool->Hp->Prop}(h:a b H λx H'=>∃k,oQ K x H' k/\Q k H'):uJ K a b H Q:=h
def CA{K:cp}{a b:Addr}{xs zs:N2}{k:Nat}{ci:L6}{g:TG}{z:TT}{w:TE}{A:St}{H:Hp}{Z:Addr->N2->Hp->Prop}(d:Nat->N2->Hp->Prop)(s:⇑xs=⇑zs)(B:d 0 [] H)(F:∀i ys H,i<=⇑xs->d i ys H->bV K H a xs/\bV K H b zs)
  (G:∀i u v ys H T H',xs[i]?⊂u->zs[i]?⊂v->d i ys H->bU H H'->H' T⊂(.tup [u,v])->g (.ref T) (di k ci A) H' λc H2=>z c H2 λb j=>if b=true then w c j λv n=>⇑ys<sizeLine/\d (i+1) (ys++[v]) n else d (i+1) ys j)
  (D:∀ys H,d ⇑xs ys H->⇑ys<=sizeLine/\∀p,H p=none->Z p ys H) :
  ∃W:Nat->Nat->N2->Hp->Prop,(∃m,W 0 m [] H)/\∀i m ys H,W i m ys H->
   ((oN K a b).stop i H/\⇑ys<=sizeLine/\∀p,H p=none->Z p ys H)\/
   ((oN K a b).go i H/\∃N:N2->Hp->Prop,(∀f H',N f H'->∃t,t<m/\W (i+1) t f H')/\∀x H',(oN K a b).lI i H x H'->g x (di k ci A) H' λc H2=>z c H2 λb j=>
    if b=true then w c j λv n=>⇑ys<sizeLine/\N (ys++[v]) n else N ys j):=by
 erw[λi m ys H=>m=⇑xs-i/\i<=⇑xs/\d i ys H,#[⇑xs,by simp,va _,B],?_];rintro i m ys H ⟨rfl,E,p⟩;let⟨q,r⟩:=F i ys H E p;by_cases l:i<⇑xs
 .refine .inr #[#[xs,xs[i],zs,zs[i],q,by simp[l],r,by simp],d (i+1),λf H' I=>#[⇑xs-(i+1),⋯,rfl,l,I],λx H' y=>?_];let⟨T,u,v,rfl,C,e,y,J⟩:=y;rwa[G i u v ys H T H' (y xs q) (J zs r) p (λb o h=>by rw[e,jh (je h C)];rwa[h]) (by rw[e];rwa[jA])]
 .have e:i=⇑xs:=⋯
  subst e;rwa[.inl #[#[xs,zs,q,r,.inl (vb _)],D ys H p]]
section
variable{X:Cx}{e:Expr}{te:TE}
def rm(K:cp)(te:TE)(ts:TO):TE:=λσ H Q=>te σ H λx H1=>ts σ H1 λst H2=>st⊂(-1)/\∃a xs,x = .ref a/\bV K H2 a xs/\∀p,H2 p=none->Q (.ref p) (upd H2 p (.lst xs.reverse))
def Lg{xs:N2}{us:L9}(h:Vals xs us):Vals xs.reverse us.reverse:=by
 induction h with
 | nil=>rwa[.nil]
 | cons r _ ih=>rw[reverse_cons,reverse_cons];rwa[ih.append (.cons r .nil)]
def Ed{st:Expr}{p:TO}{n j:Pos}(A:PE X e te)(B:PO X (some st) p):PE X (.Subscript e (.Slice none none (some st) n) j) (rm X.K te p):=by
 intro c s f H Q I h;erw[Subscript_ (cC (A c s f H _ I h) λv L z_=>?_)];obtain⟨x,t,w,K,J⟩:=z_;erw[wpAny_Slice ?_];rw[evalPart_none];erw[ug ?_];erw[ug ?_];erw[cC (B c L f t _ w J) λk d z_=>?_];obtain⟨N,u,y,G,i,a,M,z,C,q⟩:=z_
 subst i z;cases K;have g:Inv X c f u {d with heap:=d.heap.push {cls:=.type "slice",data:=.fields [.none,.none,k].toArray}}:=y.kept (t':=d.toks) λb F q=>vJ _ q
 let⟨E,r,m,D⟩:=g.list C;have l:=⇑r;show wpAny (model X.prog X.w) X.A (subscriptTail e (.Slice none none (some st) n) (.ref a) (.ref d⁻¹)) (EP X c f Q) X.xe {d with heap:=d.heap.push {cls:=.type "slice",data:=.fields [.none,.none,k].toArray}};erw[tail_any (ops:=[.ref a,.ref d⁻¹]) m.isList.typeIs slot_list_getitem.lookup ?_ (by with_unfolding_all rfl)];erw[wpAny_getItem_list_slice m.isList (Heap.IsSliceOf.new ..) .none .none G nofun ?_ (by simp_all)];rw[PySem.W.krv_pick];erw[.ref (d.heap.push {cls:=.type "slice",data:=.fields [.none,.none,k].toArray}).objs.size,_,g.laid (t':=d.toks) (o:=.lst M.reverse) (λb F q=>vJ _ q) (vb _) ?_,rfl,q _ (g.cv.fresh (vb _))];rwa[by rw[length_reverse];rwa[D],_,0,Lg r,Heap.get?_push_size _ rfl]
end
def rd_revS{K:cp}{c:TE}{d:TO}{b:St}{H:Hp}{Q:VK}(h:c b H λx H1=>d b H1 λst H2=>st⊂(-1)/\∃a xs,x = .ref a/\bV K H2 a xs/\∀p,H2 p=none->Q (.ref p) (upd H2 p (.lst xs.reverse))):rm K c d b H Q:=h
def MH{K:cp}{i j k:Nat}{a:Addr}{x y z:V}{b:St}{H:Hp}{R:St->Hp->Prop}(e:cw K H a [x,y,z])(h:cn i x b H λS' H'=>cn j y S' H' λS' H'=>cn k z S' H' R):m6 K 3 (dN (cn i) (dN (cn j) (dN (cn k) m5))) (.ref a) b H R:=
 #[a,[x,y,z],rfl,e,rfl,x,[y,z],rfl,y,[z],rfl,z,[],rfl,rfl,h]
def Bi{K:cp}{i j k l:Nat}{a:Addr}{x y z w:V}{b:St}{H:Hp}{R:St->Hp->Prop}(e:cw K H a [x,y,z,w])(h:cn i x b H λS' H'=>cn j y S' H' λS' H'=>cn k z S' H' λS' H'=>cn l w S' H' R):m6 K 4 (dN (cn i) (dN (cn j) (dN (cn k) (dN (cn l) m5)))) (.ref a) b H R:=
 #[a,[x,y,z,w],rfl,e,rfl,x,[y,z,w],rfl,y,[z,w],rfl,z,[w],rfl,w,[],rfl,rfl,h]
def ry(lo:Int)(n:Nat):It:=#[λi q=>i<n,λi H x H'=>H'=H/\x = .int (lo-i),λi q=>n<=i]
def FE{P:Program}{w:World}{K:cp}{M:Expr}(it:Addr)(lo:Int)(n:Nat):Turn P w K M (ry lo n) [it] it (λi h=>IsRangeIter h it (lo+(i:Nat)*(-1)) ((n:Int)-(i:Nat)) (-1)) where
 mem:=by simp
 obj:=λi h c b d=>by
  have e:b=it:=by simpa using d
  simp_all
 keep:=λi h g c k=>k it (by simp) _ c
 item:=by
  intro X x A u y i a s C H E I j c z;subst x A u;let⟨l,m,G,p,q,r⟩:=j it (by simp);have W:=Walks.range (prog:=X.prog) (w:=X.w) (I.ok.hd y) it lo (-1) n;erw[W.item i s _ _ z c λv g B J f L=>?_]
  let⟨t,rfl⟩:=J;have D:Inv X a C H {s with heap:=g,toks:=B}:=I.turned (λb o d e=>L b o #v[d] e) l m p q r;erw[_,rfl,tH (s:={s with heap:=g,toks:=B}) (n:="range_iterator") f rfl rfl nofun #[.int (lo-i),H,D,#[t,?_],#[rfl,rfl],f,λb d=>(j b d).1]];rw[show lo+(i:Int)*(-1)=lo-i by lia]
 done:=by
  intro X x A u y i a s C H E I j c z;subst x A u;let⟨l,m,G,p,q,r⟩:=j it (by simp);rwa[wpAny_pyNext_range_end (I.ok.hd y) c (by have:n<=i:=z;lia) λg F=>#[rfl,I.turned (t':=s.toks) (λb o d e=>F b o d e) l m p q r]]
 self:=λZ Z Z Z Z c h=>wpAny_pyIter_rangeiter c h
section
variable{X:Cx}{tg:Expr}
def YZ(a b:Int):Builtin.Range.rangeSize a b (-1)=if b<a then a-b else 0:=by
 unfold Builtin.Range.rangeSize;simp only[show¬((-1:Int)>0) by decide,if_false,show(- -1:Int)=1 by decide,Int.ediv_one];split<;>lia
def Hs(c : -(2^61)<=a)(d:a<2^61)(e : -(2^61)<=b)(h:b<2^61):Builtin.Range.small a b (-1)=true:=by
 have f:∀x:Int,-(2^62)<=x->x<2^62->Builtin.Range.rangeFitsLong x=true:=λx c d=>by
  unfold Builtin.Range.rangeFitsLong;simp;lia
 unfold Builtin.Range.small;rw[YZ];have g : -(2^62)<=(if b<a then a-b else 0)/\(if b<a then a-b else 0)<2^62:=by split<;>lia
 rw[f a ⋯ ⋯,f b ⋯ ⋯,f (-1) nofun nofun,f _ g.1 g.2,vc (show¬((-1:Int)>0) by decide),f (b+(-1+1)) ⋯ ⋯];simp
def GZ{a:Ny}{f:St}{H:Hp}{s:Shared}{R:It->Hp->Prop}{E:Nz}{lo hi:Int}{t u v:Tok}{d:Nat}(I:Inv X a f H s)(i : -(2^61)<=lo)(j:lo<2^61)(k : -(2^61)<=hi)(l:hi<2^61)
  (q:R (ry lo (lo-hi).toNat) H):wpAny (model X.prog X.w) X.A (pyIter (.ref s⁻¹)) (Ab X a f tg R) E {s with heap:=s.heap.push {cls:=.type "range",data:=.fields [.int lo t,.int hi u,.int (-1) v].toArray},toks:=d}:=by
 erw[wpAny_pyIter_range (IsRange.new ..) (Hs i j k l) ?_];have c:Inv X a f H {s with heap:=s.heap.push {cls:=.type "range",data:=.fields [.int lo t,.int hi u,.int (-1) v].toArray},toks:=d}:=I.kept λb o e=>vJ _ e
 refine#[(s.heap.push {cls:=.type "range",data:=.fields [.int lo t,.int hi u,.int (-1) v].toArray}).objs.size,[(s.heap.push {cls:=.type "range",data:=.fields [.int lo t,.int hi u,.int (-1) v].toArray}).objs.size],_,_,H,rfl,
  c.kept (t':=d) λb o e=>vJ _ e,FE _ lo (lo-hi).toNat,?_,λb m=>?_,q]
 .have g:lo+((0:Nat):Int)*(-1)=lo:=by simp
  have h:(((lo-hi).toNat:Nat):Int)-((0:Nat):Int)=Builtin.Range.rangeSize lo hi (-1):=by rw[YZ];split<;>lia
  show IsRangeIter _ _ (lo+((0:Nat):Int)*(-1)) ((((lo-hi).toNat:Nat):Int)-((0:Nat):Int)) (-1);rw[g,h];rwa[Heap.get?_push_size _ rfl]
 .have e:b=(s.heap.push {cls:=.type "range",data:=.fields [.int lo t,.int hi u,.int (-1) v].toArray}).objs.size:=by simpa using m
  subst e;rwa[c.fY (vb _) (c.cv.fresh (vb _))]
def pS(ta:TA):TI:=λσ H R=>ta σ H λvs H1=>∃i j:Int,vs=[.int i,.int j,.int (-1)]/\(-(2^61)<=i/\i<2^61/\-(2^61)<=j/\j<2^61)/\R (ry i (i-j).toNat) H1
def GS(m:Gl X "range")(n:X.mg "range"= none)(l:PA X [a,b,c] ta)(o:starEach [a,b,c] X.env=(false,eval a X.env)::starEach [b,c] X.env:=by rfl)(f:(backTo pos (starEach [b,c] X.env)).any (·.1)=false:=by rfl) :
  PI X tg (.Call (.Name "range" p) [a,b,c] [] pos) (pS ta):=by
 intro d s z H R I h;erw[Call_ (Zd I m n boot_range (PyProof.Rows.callWith_type1 (cC (l pos d s z H _ I h) λD B z_=>?_) o f))];obtain⟨E,A,k,x,g⟩:=z_;let⟨i,j,e,⟨g,u,v,w⟩,q⟩:=g;subst e;cases x with
 | cons r rr=>
  cases rr with
  | cons r' rr=>
   cases rr with
   | cons r'' rr=>
    cases rr;let⟨t,rfl⟩:=r;let⟨C,rfl⟩:=r';let⟨y,rfl⟩:=r'';rwa[call_range_3 nofun (GZ k g u v w q) (.inl (PyProof.noPylong_small ⋯))]
end
def rd_rngD{a:St}{H:Hp}{R:It->Hp->Prop}(h:ta a H λvs H1=>∃i j:Int,vs=[.int i,.int j,.int (-1)]/\(-(2^61)<=i/\i<2^61/\-(2^61)<=j/\j<2^61)/\R (ry i (i-j).toNat) H1):pS ta a H R:=h
def Hz{lo:Int}{n:Nat}{g:TG}{h:TS}{D:Ends}{a:St}{H:Hp}(b:Nat->St->Hp->Prop)(j:b 0 a H)(l:∀i a H,i<n->b i a H->g (.int (lo-i)) a H λd H2=>h {D with nx:=b (i+1),ct:=b (i+1),bk:=D.nx} d H2)(k:∀a H,b n a H->D.nx a H) :
  ∃W:Nat->Nat->St->Hp->Prop,(∃m,W 0 m a H)/\∀i m a H,W i m a H->
   ((ry lo n).stop i H/\D.nx a H)\/((ry lo n).go i H/\∃N:St->Hp->Prop,(∀S' H',N S' H'->∃f,f<m/\W (i+1) f S' H')/\∀x H',(ry lo n).lI i H x H'->g x a H' λd H2=>h {D with nx:=N,ct:=N,bk:=D.nx} d H2):=by
 erw[λi m a H=>m=n-i/\i<=n/\b i a H,#[n,by simp,va _,j],?_];rintro i m a H ⟨rfl,q,p⟩;by_cases c:i<n
 .refine .inr #[c,b (i+1),λS' H' o=>#[n-(i+1),⋯,rfl,c,o],λx H' y=>?_];let⟨e,y⟩:=y;subst e y;rwa[l i a _ c p]
 .have e:i=n:=⋯
  subst e;rwa[.inl #[vb _,k a H p]]
section
variable{X:Cx}
def Gx:sT X "list.index" (λx vs H Q=>∃(p:Addr) (xs:N2) (y z:V) (j:Nat),x = .ref p/\vs=[y]/\bV X.K H p xs/\eJ y=true/\xs.all eJ=true/\xs[j]?⊂z/\mK z y=true/\(∀(m:Nat) (c:V),m<j->xs[m]?⊂c->mK c y=false)/\Q (.int j) H):=by
 intro E s σ H x vs v us Q I Z Y h;let⟨p,xs,y,z,j,rfl,rfl,U,N,d,f,M,k,q⟩:=h;cases Z;let⟨u,rfl,W⟩:=vals1 Y;let⟨a,r,G,hz⟩:=I.list U;have lx:=⇑r;have jl:=(vx.mp f).1;let⟨w',S,t⟩:=r.get f;have O:eJ z=true:=all_eq_true.mp d z (vm f);let⟨⟨K,L,A,sl⟩,R,B,n,C⟩:=id G.isList;simp only at B C;subst B C;have g:j<a.toArray.size:=by rw[size_toArray];lia
 have J:sizeLine<2^62:=by decide
 have o:(j:Int)<2^63-1:=⋯
 erw[call_meets F.slot_list_index G.isList.typeIs F.entry_list_index (F.args_list_index_2 _ _) (SeqAt.list_indexAt p a.toArray n L sl u (l6 y) j g o ?_ ?_) #[R,λy' l=>Z4 W N r d y' #v[l],#[.int j,H,I.tok _,#[_,rfl],q]]]
 .have e:a.toArray[j]=w':=by
   have:=vx.mp S;let⟨h,e⟩:=this;simpa using e
  rw[e,XM t O];rwa[M]
 .intro m D i;have P:m<⇑a:=by rw[size_toArray]at D;exact D
  obtain⟨c,b⟩:∃c,xs[m]?⊂c:=#[_,vz ⋯]
  let⟨w2,T,w⟩:=r.get b;have e:a.toArray[m]=w2:=by
   simp_all
  rw[e,XM w (all_eq_true.mp d c (vm b))];rwa[k m c i b]
end
noncomputable abbrev BE(r:R2)(x:V)(Q:VK):VK:=λy H2=>r x y H2 Q
noncomputable abbrev Oc(r:R2)(tb:TE)(σ:St)(Q:VK):VK:=λx H1=>tb σ H1 (BE r x Q)
noncomputable abbrev Of(r:V->Hp->VK->Prop)(Q:VK):VK:=λx H1=>r x H1 Q
noncomputable abbrev BD(x:V)(R:N2->Hp->Prop):N2->Hp->Prop:=λxs H2=>R (x::xs) H2
noncomputable abbrev N5(tr:TA)(σ:St)(R:N2->Hp->Prop):VK:=λx H1=>tr σ H1 (BD x R)
noncomputable abbrev NX(g:TG)(σ:St)(R:St->Hp->Prop):VK:=λx H1=>g x σ H1 R
noncomputable abbrev N9(t u:TS)(D:Ends)(σ:St):Bool->Hp->Prop:=λb H1=>if b=true then t D σ H1 else u D σ H1
noncomputable abbrev EU(R:Bool->Hp->Prop):VK:=λx H'=>∃k,x = .bl k/\R k H'
noncomputable abbrev Ob(R:Bool->Hp->Prop):Bool->Hp->Prop:=λc H1=>R (!c) H1
noncomputable abbrev NW(u:TT)(σ:St)(R:Bool->Hp->Prop):Bool->Hp->Prop:=λc H1=>if c=true then u σ H1 R else R false H1
noncomputable abbrev Od(u:TT)(σ:St)(R:Bool->Hp->Prop):Bool->Hp->Prop:=λc H1=>if c=true then R true H1 else u σ H1 R
noncomputable abbrev NZ(sp:Sp)(dvs:N2)(Q:VK)(E:XK):N2->Hp->Prop:=λvs H1=>sp (vs++dvs) H1 Q E
noncomputable abbrev N4(r:N2->Hp->VK->Prop)(Q:VK):N2->Hp->Prop:=λvs H1=>r vs H1 Q
noncomputable abbrev N6(R:St->Hp->Prop)(σ:St):VK:=λq H1=>R σ H1
noncomputable abbrev N8(ta tb:TE)(σ:St)(Q:VK):Bool->Hp->Prop:=λc H1=>if c=true then ta σ H1 Q else tb σ H1 Q
noncomputable abbrev BC(r:V->N2->Hp->VK->Prop)(x:V)(Q:VK):N2->Hp->Prop:=λxs H2=>r x xs H2 Q
noncomputable abbrev NY(K:cp)(T:String)(r:V->N2->Hp->VK->Prop)(t:TA)(σ:St)(Q:VK):VK:=λx H1=>uP K T x H1/\t σ H1 (BC r x Q)
noncomputable abbrev Oa(Q:VK):N2->Hp->Prop:=λxs H1=>⇑xs<=sizeLine/\∀p,H1 p=none->Q (.ref p) (upd H1 p (.lst xs))
noncomputable abbrev Oe(Q:VK):N2->Hp->Prop:=λxs H1=>⇑xs<=sizeLine/\∀p,H1 p=none->Q (.ref p) (upd H1 p (.tup xs))
noncomputable abbrev N7(K:cp)(f:Str)(Q:VK):VK:=λx H1=>∃a C dx fs v,x = .ref a/\H1 a⊂.ins C dx fs/\lX K C/\cT K C f/\fs.lookup f⊂v/\Q v H1
section
variable{σ:St}{H:Hp}{D:Ends}{Q:VK}{ta tb te:TE}
def rd_seq(h:t {D with nx:=u D} σ H):uI t u D σ H:=h
def rd_asg(h:te σ H (NX g σ D.nx)):om te g D σ H:=h
def rd_v0{r:St}(h:Q v H):eN 0 (some v::r) H Q:=#[v,rfl,h]
def rd_n0{r:St}{R:St->Hp->Prop}(h:R (some v::r) H):cn 0 v (a0::r) H R:=h
def rd_v1{r:St}(h:Q v H):eN 1 (a0::some v::r) H Q:=#[v,rfl,h]
def rd_n1{r:St}{R:St->Hp->Prop}(h:R (a0::some v::r) H):cn 1 v (a0::a1::r) H R:=h
def rd_v2{r:St}(h:Q v H):eN 2 (a0::a1::some v::r) H Q:=#[v,rfl,h]
def rd_n2{r:St}{R:St->Hp->Prop}(h:R (a0::a1::some v::r) H):cn 2 v (a0::a1::a2::r) H R:=h
def rd_v3{r:St}(h:Q v H):eN 3 (a0::a1::a2::some v::r) H Q:=#[v,rfl,h]
def rd_n3{r:St}{R:St->Hp->Prop}(h:R (a0::a1::a2::some v::r) H):cn 3 v (a0::a1::a2::a3::r) H R:=h
def rd_v4{r:St}(h:Q v H):eN 4 (a0::a1::a2::a3::some v::r) H Q:=#[v,rfl,h]
def rd_n4{r:St}{R:St->Hp->Prop}(h:R (a0::a1::a2::a3::some v::r) H):cn 4 v (a0::a1::a2::a3::a4::r) H R:=h
def rd_v5{r:St}(h:Q v H):eN 5 (a0::a1::a2::a3::a4::some v::r) H Q:=#[v,rfl,h]
def rd_n5{r:St}{R:St->Hp->Prop}(h:R (a0::a1::a2::a3::a4::some v::r) H):cn 5 v (a0::a1::a2::a3::a4::a5::r) H R:=h
def rd_v6{r:St}(h:Q v H):eN 6 (a0::a1::a2::a3::a4::a5::some v::r) H Q:=#[v,rfl,h]
def rd_n6{r:St}{R:St->Hp->Prop}(h:R (a0::a1::a2::a3::a4::a5::some v::r) H):cn 6 v (a0::a1::a2::a3::a4::a5::a6::r) H R:=h
def rd_v7{r:St}(h:Q v H):eN 7 (a0::a1::a2::a3::a4::a5::a6::some v::r) H Q:=#[v,rfl,h]
def rd_n7{r:St}{R:St->Hp->Prop}(h:R (a0::a1::a2::a3::a4::a5::a6::some v::r) H):cn 7 v (a0::a1::a2::a3::a4::a5::a6::a7::r) H R:=h
def rd_v8{r:St}(h:Q v H):eN 8 (a0::a1::a2::a3::a4::a5::a6::a7::some v::r) H Q:=#[v,rfl,h]
def rd_n8{r:St}{R:St->Hp->Prop}(h:R (a0::a1::a2::a3::a4::a5::a6::a7::some v::r) H):cn 8 v (a0::a1::a2::a3::a4::a5::a6::a7::a8::r) H R:=h
def rd_v9{r:St}(h:Q v H):eN 9 (a0::a1::a2::a3::a4::a5::a6::a7::a8::some v::r) H Q:=#[v,rfl,h]
def rd_n9{r:St}{R:St->Hp->Prop}(h:R (a0::a1::a2::a3::a4::a5::a6::a7::a8::some v::r) H):cn 9 v (a0::a1::a2::a3::a4::a5::a6::a7::a8::a9::r) H R:=h
def rd_v10{r:St}(h:Q v H):eN 10 (a0::a1::a2::a3::a4::a5::a6::a7::a8::a9::some v::r) H Q:=#[v,rfl,h]
def rd_n10{r:St}{R:St->Hp->Prop}(h:R (a0::a1::a2::a3::a4::a5::a6::a7::a8::a9::some v::r) H):cn 10 v (a0::a1::a2::a3::a4::a5::a6::a7::a8::a9::a10::r) H R:=h
def rd_v11{r:St}(h:Q v H):eN 11 (a0::a1::a2::a3::a4::a5::a6::a7::a8::a9::a10::some v::r) H Q:=#[v,rfl,h]
def rd_n11{r:St}{R:St->Hp->Prop}(h:R (a0::a1::a2::a3::a4::a5::a6::a7::a8::a9::a10::some v::r) H):cn 11 v (a0::a1::a2::a3::a4::a5::a6::a7::a8::a9::a10::a11::r) H R:=h
def rd_v12{r:St}(h:Q v H):eN 12 (a0::a1::a2::a3::a4::a5::a6::a7::a8::a9::a10::a11::some v::r) H Q:=#[v,rfl,h]
def rd_n12{r:St}{R:St->Hp->Prop}(h:R (a0::a1::a2::a3::a4::a5::a6::a7::a8::a9::a10::a11::some v::r) H):cn 12 v (a0::a1::a2::a3::a4::a5::a6::a7::a8::a9::a10::a11::a12::r) H R:=h
def rd_v13{r:St}(h:Q v H):eN 13 (a0::a1::a2::a3::a4::a5::a6::a7::a8::a9::a10::a11::a12::some v::r) H Q:=#[v,rfl,h]
def rd_n13{r:St}{R:St->Hp->Prop}(h:R (a0::a1::a2::a3::a4::a5::a6::a7::a8::a9::a10::a11::a12::some v::r) H):cn 13 v (a0::a1::a2::a3::a4::a5::a6::a7::a8::a9::a10::a11::a12::a13::r) H R:=h
def rd_v14{r:St}(h:Q v H):eN 14 (a0::a1::a2::a3::a4::a5::a6::a7::a8::a9::a10::a11::a12::a13::some v::r) H Q:=#[v,rfl,h]
def rd_n14{r:St}{R:St->Hp->Prop}(h:R (a0::a1::a2::a3::a4::a5::a6::a7::a8::a9::a10::a11::a12::a13::some v::r) H):cn 14 v (a0::a1::a2::a3::a4::a5::a6::a7::a8::a9::a10::a11::a12::a13::a14::r) H R:=h
def rd_v15{r:St}(h:Q v H):eN 15 (a0::a1::a2::a3::a4::a5::a6::a7::a8::a9::a10::a11::a12::a13::a14::some v::r) H Q:=#[v,rfl,h]
def rd_n15{r:St}{R:St->Hp->Prop}(h:R (a0::a1::a2::a3::a4::a5::a6::a7::a8::a9::a10::a11::a12::a13::a14::some v::r) H):cn 15 v (a0::a1::a2::a3::a4::a5::a6::a7::a8::a9::a10::a11::a12::a13::a14::a15::r) H R:=h
def rd_v16{r:St}(h:Q v H):eN 16 (a0::a1::a2::a3::a4::a5::a6::a7::a8::a9::a10::a11::a12::a13::a14::a15::some v::r) H Q:=#[v,rfl,h]
def rd_n16{r:St}{R:St->Hp->Prop}(h:R (a0::a1::a2::a3::a4::a5::a6::a7::a8::a9::a10::a11::a12::a13::a14::a15::some v::r) H):cn 16 v (a0::a1::a2::a3::a4::a5::a6::a7::a8::a9::a10::a11::a12::a13::a14::a15::a16::r) H R:=h
def rd_const(h:Q v H):tC v σ H Q:=h
def rd_op(h:ta σ H (Oc r tb σ Q)):uG r ta tb σ H Q:=h
def rd_un{r:V->Hp->VK->Prop}(h:ta σ H (Of r Q)):E3 r ta σ H Q:=h
def rd_i0{g:Int->Int->V}(h:Q (g i j) H):pe g (.int i) (.int j) H Q:=#[i,j,rfl,rfl,h]
def NV{C:Int->Int->Prop}{g:Int->Int->V}(c:C i j)(h:Q (g i j) H):rI C g (.int i) (.int j) H Q:=#[i,j,rfl,rfl,c,h]
def rd_u{g:Int->V}(h:Q (g i) H):rU g (.int i) H Q:=#[i,rfl,h]
def rd_eqI(h:Q (.bl (decide (i=j))) H):BL (.int i) (.int j) H Q:=by
 erw[rfl,?_];rw[show decide (V.int i=V.int j)=decide (i=j) by simp];rwa[h]
def rd_neI(h:Q (.bl (!decide (i=j))) H):EW (.int i) (.int j) H Q:=by
 erw[rfl,?_];rw[show decide (V.int i=V.int j)=decide (i=j) by simp];rwa[h]
def rd_eqS(h:Q (.bl (decide (i=j))) H):BL (.str i) (.str j) H Q:=by
 erw[rfl,?_];rw[show decide (V.str i=V.str j)=decide (i=j) by simp];rwa[h]
def rd_if(h:c σ H (N9 t u D σ)):sh c t u D σ H:=h
def rd_test{R:Bool->Hp->Prop}(h:te σ H (EU R)):oC te σ H R:=h
def rd_tB{R:Bool->Hp->Prop}(h:te σ H (EU R)):tB te σ H R:=h
def rd_blP{R:Bool->Prop}(h:R k):∃a,V.bl k = .bl a/\R a:=#[k,rfl,h]
def rd_not{R:Bool->Hp->Prop}(h:t σ H (Ob R)):uF t σ H R:=h
def rd_and{R:Bool->Hp->Prop}(h:t σ H (NW u σ R)):uv t u σ H R:=h
def rd_or{R:Bool->Hp->Prop}(h:t σ H (Od u σ R)):E1 t u σ H R:=h
def rd_andV(h:ta σ H λx H1=>∃c,x = .bl c/\if c=true then tb σ H1 Q else Q (.bl false) H1):pY ta tb σ H Q:=h
def rd_notV(h:ta σ H λx H1=>∃c,x = .bl c/\Q (.bl (!c)) H1):rj ta σ H Q:=h
def rd_ifE(h:t σ H (N8 ta tb σ Q)):EY t ta tb σ H Q:=h
def rd_ret(h:te σ H D.rt):uH te D σ H:=h
def rd_next(h:D.nx σ H):ri D σ H:=h
def rd_drop(h:te σ H (N6 D.nx σ)):rg te D σ H:=h
def rd_cb{r:N2->Hp->VK->Prop}(h:t σ H (N4 r Q)):BS r t σ H Q:=h
def rd_call{sp:Sp}(h:t σ H (NZ sp dvs Q E)):oo sp dvs E t σ H Q:=h
def rd_fld{K:cp}{f:Str}(h:ta σ H (N7 K f Q)):uB K ta f σ H Q:=h
def rd_sfld{K:cp}{f:Str}(h:tb σ H λy H1=>ta σ H1 λx H2=>∃a C dx fs,x = .ref a/\H2 a⊂.ins C dx fs/\lX K C/\cT K C f/\⇑fs<1000/\D.nx σ (upd H2 a (.ins C dx (cq f y fs)))):um K ta tb f D σ H:=h
def rd_meth{sp:Sp}(h:ta σ H λx H1=>∃a dx fs,x = .ref a/\H1 a⊂.ins C dx fs/\fs.lookup m=none/\t σ H1 λvs H2=>sp (x::(vs++dvs)) H2 Q E):oB C m sp dvs E ta t σ H Q:=h
def rd_make{sp:Sp}(h:t σ H λvs H1=>∀x dx,H1 x=none->H1 dx=none->dx≠x->sp (.ref x::(vs++dvs)) (upd (upd H1 dx (.own x)) x (.ins C dx [])) (λv H2=>v = .cV/\Q (.ref x) H2) E):rh C sp dvs E t σ H Q:=h
def rd_dIn(h:ta σ H λy H1=>tb σ H1 λx H2=>∃a o,x = .ref a/\cY H2 a y o/\Q (.bl o.isSome) H2):uA ta tb σ H Q:=h
def rd_nil{R:N2->Hp->Prop}(h:R [] H):pk σ H R:=h
def rd_cons{R:N2->Hp->Prop}(h:ta σ H (N5 tr σ R)):pZ ta tr σ H R:=h
def rd_lst(h:t σ H (Oa Q)):uE t σ H Q:=h
def rd_tup(h:t σ H (Oe Q)):uL t σ H Q:=h
def rd_chain(h:ta σ H λx H1=>tb σ H1 λy H2=>r x y H2 λz a=>∃k,z = .bl k/\(if k=true then tc σ a λc b=>r' y c b Q else Q (.bl false) a)):oq r r' ta tb tc σ H Q:=h
def rd_bm{K:cp}{T:String}{r:V->N2->Hp->VK->Prop}{t:TA}(h:te σ H (NY K T r t σ Q)):EX K T r te t σ H Q:=h
def rd_sl{r:V->Option Int->Option Int->Hp->VK->Prop}(h:te σ H λx H1=>tl σ H1 λl H2=>th σ H2 λu a=>r x l u a Q):E2 r te tl th σ H Q:=h
def rd_nopart{R:Option Int->Hp->Prop}(h:R none H):mP σ H R:=h
def rd_part{R:Option Int->Hp->Prop}(h:te σ H λx H1=>∃i,x = .int i/\R (some i) H1):rk te σ H R:=h
def rd_int{R:Int->Prop}(h:R i):∃a,V.int i = .int a/\R a:=#[i,rfl,h]
def cA{p A B:Prop}[Decidable p](a:p->A)(b:¬p->B):if decide p=true then A else B:=by
 by_cases h:p
 .rw[vd (vG h)];rwa[a h]
 .rw[vc #v[h]];rwa[b h]
def mB{p A B:Prop}[Decidable p](a:¬p->A)(b:p->B):if(!decide p)=true then A else B:=by
 by_cases h:p
 .rw[vc #v[h]];rwa[b h]
 .rw[vd #v[h]];rwa[a h]
def rd_rng1{a:TA}{R:It->Hp->Prop}(h:a σ H λvs H1=>∃j:Int,vs=[.int j]/\-(2^62)<=j/\j<2^62/\R (nA 0 j.toNat) H1):pQ a σ H R:=h
def rd_rng2{a:TA}{R:It->Hp->Prop}(h:a σ H λvs H1=>∃i j:Int,vs=[.int i,.int j]/\(-(2^62)<=i/\i<2^62/\-(2^62)<=j/\j<2^62)/\R (nA i (j-i).toNat) H1):pR a σ H R:=h
def rd_iList{K:cp}{R:It->Hp->Prop}(h:te σ H λx H1=>∃a,x = .ref a/\(∃xs,bV K H1 a xs)/\R (nJ K a) H1):pP K te σ H R:=h
def rd_p18(h:Q (.int (10^18)) H):rI nH (λi j=>.int (i^j.toNat)) (.int 10) (.int 18) H Q:=#[10,18,rfl,rfl,#[by decide,by decide,by decide],h]
def rd_p30(h:Q (.int (10^30)) H):rI nH (λi j=>.int (i^j.toNat)) (.int 10) (.int 30) H Q:=#[10,30,rfl,rfl,#[by decide,by decide,by decide],h]
def rd_p60(h:Q (.int (10^60)) H):rI nH (λi j=>.int (i^j.toNat)) (.int 10) (.int 60) H Q:=#[10,60,rfl,rfl,#[by decide,by decide,by decide],h]
def rd_aug(h:eN i σ H λx H0=>te σ H0 λy H1=>ti x y H1 λz H2=>cn i z σ H2 D.nx):uw i te ti D σ H:=h
def rd_ipI{f:Int->Int->Int}(h:Q (.int (f i j)) H):B5 f (.int i) (.int j) H Q:=#[i,j,rfl,rfl,h]
def rd_for{c:TS} (h:wi σ H λJ H1=>∃W:Nat->Nat->St->Hp->Prop,(∃m,W 0 m σ H1)/\∀i m σ H,W i m σ H->
 (J.stop i H/\D.nx σ H)\/(J.go i H/\∃N:St->Hp->Prop,(∀S' H',N S' H'->∃b,b<m/\W (i+1) b S' H')/\∀x H',J.lI i H x H'->g x σ H' λa H2=>c {D with nx:=N,ct:=N,bk:=D.nx} a H2)):uC wi g c D σ H:=h
def rd_comp (h:wi σ H λJ H1=>∃W:Nat->Nat->N2->Hp->Prop,(∃m,W 0 m [] H1)/\∀i m ys H,W i m ys H->
 (J.stop i H/\⇑ys<=sizeLine/\∀p,H p=none->Q (.ref p) (upd H p (.lst ys)))\/
 (J.go i H/\∃N:N2->Hp->Prop,(∀a H',N a H'->∃e,e<m/\W (i+1) e a H')/\∀x H',J.lI i H x H'->g x (di n ci σ) H' λc H2=>tf c H2 λb d=>
  if b=true then te c d λv f=>⇑ys<sizeLine/\N (ys++[v]) f else N ys d)):ou wi n ci g tf te σ H Q:=h
def rd_yes{R:Bool->Hp->Prop}(h:R true H):uM σ H R:=h
def Jo{n:Nat}{ci:L6}{g:TG}{x:V}{S':St}{R:St->Hp->Prop}(e:di n ci σ=S')(h:g x S' H R):g x (di n ci σ) H R:=by rw[e];rwa[h]
def jC{t:TS}{S':St}(e:σ=S')(h:t D S' H):t D σ H:=by subst e;rwa[h]
def wU{H H':Hp}(h:H p=none)(e:upd H p o=H'):bU H H':=λb u q=>by rw[<-e,jh (je q h)];rwa[q]
def Qc{H H':Hp}(e:upd H p o=H'):H' p⊂o:=by rw[<-e];rwa[jA]
end
def ck{K:cp}{p:Addr}{xs:N2}{i:Int}{v:V}{H:Hp}{Q:VK}(h:bV K H p xs)(e:eZ xs i⊂v)(q:Q v H):oi K (.ref p) (.int i) H Q:=#[p,xs,i,v,rfl,rfl,h,e,q]
def dY{K:cp}{p:Addr}{xs:N2}{i:Int}{v:V}{H:Hp}{Q:VK}(h:cw K H p xs)(e:eZ xs i⊂v)(q:Q v H):ph K (.ref p) (.int i) H Q:=#[p,xs,i,v,rfl,rfl,h,e,q]
def cg{K:cp}{p:Addr}{xs:N2}{i:Int}{v:V}{H:Hp}{Q:VK}(h:H p⊂.tup xs)(q:Q v H)(e:eZ xs i⊂v:=by rfl):ph K (.ref p) (.int i) H Q:=#[p,xs,i,v,rfl,rfl,cw.of h,e,q]
end L2
local macro_rules | `(tactic| walk_at "side") => `(tactic| first | with_reducible assumption | exact L2.tq (by lia) (by lia) | exact L2.tT (by lia) (by lia) (by lia) (by lia) | exact L2.mulOkC (by first | assumption | exact L2.bits_ediv (by assumption) _) (by lia) (by lia) | lia)
local macro_rules | `(tactic| walk_at $s:str) => do
 let ws:=s.getString.splitOn " "
 if ws.head?==some "f" then
  let vs:=if ws.length==3 then["p"++ws.getD 1 "","hp"++ws.getD 1 "","H"++ws.getD 1 "","s"++ws.getD 1 "",ws.getD 2 ""++ws.getD 1 ""]else ws.drop 1
  let i:=λ(k:Nat)=>Lean.mkIdent (Lean.Name.mkSimple (vs.getD k ""))
  return <-`(tactic| (intro $(i 0):ident $(i 1):ident;generalize eH:L2.upd _ $(i 0) _ = $(i 2):ident;have $(i 3):ident:=L2.wU $(i 1) eH;have $(i 4):ident:=L2.Qc eH;clear eH))
 if s.getString != "g" then Lean.Macro.throwUnsupported
 let as <-("rd_seq rd_asg rd_op rd_const rd_i0 rd_cons rd_nil rd_call rd_ret rd_if rd_test rd_tB rd_blP rd_not rd_next rd_v0 rd_v1 rd_v2 rd_v3 rd_v4 rd_v5 rd_v6 rd_v7 rd_v8 rd_v9 rd_v10 rd_v11 rd_v12 rd_v13 rd_v14 rd_v15 rd_v16 rd_un rd_u rd_and rd_or rd_andV rd_notV rd_ifE rd_drop rd_cb rd_lst rd_tup rd_chain rd_bm rd_sl rd_nopart rd_part rd_eqI rd_neI rd_eqS rd_str rd_int rd_rng1 rd_rng2 rd_iList rd_ipI rd_aug rd_for rd_comp rd_yes rd_dget rd_prC rd_prN rd_iTup rd_sub rd_iEnum rd_iZip rd_dnew rd_dput rd_bm0 rd_iRev rd_tru rd_revS rd_rngD rd_fld rd_sfld rd_meth rd_make rd_dIn rd_n0 rd_n1 rd_n2 rd_n3 rd_n4 rd_n5 rd_n6 rd_n7 rd_n8 rd_n9 rd_n10 rd_n11 rd_n12 rd_n13 rd_n14 rd_n15 rd_n16 rd_p18 rd_p30 rd_p60".splitOn " ").toArray.mapM λn=>`(Lean.Parser.Tactic.tacticSeq| refine $(Lean.mkIdent (Lean.Name.mkStr2 "L2" n)) ?_)
 `(tactic| repeat first | with_reducible (first $[| $as]*) | (with_reducible refine L2.NV ?c ?_; (case c => ((try dsimp only); walk_at "side"))))
local macro_rules | `(tactic| exists $e) => `(tactic| (walk_at "g"; refine $e))
local macro_rules | `(tactic| ac_nf) => `(tactic| walk_at "g")
local macro_rules | `(tactic| sleep $n) => `(tactic| walk_at $(Lean.Syntax.mkStrLit s!"f {n.getNat} t"))
local macro_rules | `(tactic| trivial) => `(tactic| decide +kernel)
namespace Rp
noncomputable def ramp(s g b j:Int):Int:=s+(g-s)*j/b
end Rp
namespace Pr
open PySem L2
noncomputable def cell(ns:L5)(k:Int):Int:=ns∘k.toNat
inductive eO(K:cp)(vs:N2)(H:Hp)(Q:VK)(xk:XK):Prop
 | mk (a) (ns:L5) (k):vs=[.ref a,.int k]->bV K H a (ns.map V.int)->⇑ns<=63->0<=k->Q (.int (cell ns k)) H->eO K vs H Q xk
def CZ:Sp:=λvs H Q q=>∃i,vs=[.int i]/\Q (.bl true) H
def IB{a:L5}{k:Int}(d:0<=k)(h:k<(⇑a:Int)):eZ (a.map V.int) k⊂(.int (cell a k)):=by
 have c:k=((k.toNat:Nat):Int):=⋯
 have b:k.toNat<⇑a:=⋯
 have q:eZ (a.map V.int) ((k.toNat:Nat):Int)⊂(.int a[k.toNat]):=jS (by rw[vv,vz b]<;>rfl);rw[<-c]at q;rw[q];unfold cell;rw[vy,vz b];rfl
inductive gY(K:cp)(vs:N2)(H:Hp)(Q:VK)(xk:XK):Prop
 | mk (a) (ns:L5):vs=[.ref a]->bV K H a (ns.map V.int)->⇑ns<=63->(∀x∈ns,Builtin.Int.intBits x<=1048576)->(∀H',Q (.bl true) H')->gY K vs H Q xk
def B4(s g b j:Int):Prop:=-10^61<=s/\s<=10^61/\-10^61<=g/\g<=10^61/\0<b/\b<=10^61/\-10^61<=j/\j<=10^61
def DO:Sp:=λvs H Q q=>∃s g b j:Int,vs=[.int s,.int g,.int b,.int j]/\B4 s g b j/\Q (.int (Rp.ramp s g b j)) H
end Pr
namespace Ws
open PySem PySem.NumText L2
noncomputable def lets:Str:="abcdefghijklmnopqrstuvwxyz"
noncomputable def among(x z:Str):Bool:=decide (∀c∈x.cps.toList,c∈z.cps.toList)
noncomputable def fR(x:Str):Bool:=decide (1<=⇑x/\⇑x<=8)&&among x lets
open PySem L2
end Ws
namespace Rm
open PySem PySem.NumText PyProof.Rows L2
def IK{x:Str}{lo hi:Nu}:⇑(Txt.slice x lo hi)<=⇑x:=Txt.slice_le x lo hi
def Ig:c∈Ws.lets.cps.toList↔97<=c/\c<=122:=by
 rw[show Ws.lets.cps.toList=List.range' 97 26 by trivial,List.mem_range'_1];lia
def Eh{i:Int}(a:0<=i)(b:i<26):eZ (Str.ofString "abcdefghijklmnopqrstuvwxyz").cps.toList i⊂(97+i.toNat):=by
 have h:∀k:Nat,k<26->eZ (Str.ofString "abcdefghijklmnopqrstuvwxyz").cps.toList (k:Int)⊂(97+(k:Int).toNat):=by trivial
 have e:=h i.toNat ⋯;rw[Int.toNat_of_nonneg a]at e;rwa[e]
open PySem L2
def none_of{H H':Hp}(s:bU H H')(h:H' p=none):H p=none:=by
 cases e:H p with
 | none=>rfl
 | some u=>rw[s _ _ e]at h;cases h
inductive Fm where
 | hold (n:Int) | ring (x:Str) (n:Int) | rise (x:Str) (h n:Int) | row (ps:L8) | side (ps:L8) | again (k:Int) (x:Str)
abbrev N1:=List (Str×Fm)
noncomputable def cf(H:Hp)(a:Addr):Fm->Prop
 | .hold n=>H a⊂(.tup [.str "hold",.int n])
 | .ring x n=>H a⊂(.tup [.str "ring",.str x,.int n])
 | .rise x h n=>H a⊂(.tup [.str "raise",.str x,.int h,.int n])
 | .row ps=>∃b,H a⊂(.tup [.str "row",.ref b])/\H b⊂(.tup (ps.map V.str))
 | .side ps=>∃b,H a⊂(.tup [.str "side",.ref b])/\H b⊂(.tup (ps.map V.str))
 | .again k x=>H a⊂(.tup [.str "again",.int k,.str x])
def cU(H:Hp)(a:Addr)(p:Str×Fm):Prop:=∃b,H a⊂(.tup [.str p.1,.ref b])/\cf H b p.2
def ft(H:Hp)(a:Addr)(p:Str×Int):Prop:=H a⊂(.tup [.str p.1,.int p.2])
def bX{α:Type}(R:Addr->α->Prop)(as:L7)(xs:List α):Prop:=⇑as=⇑xs/\∀(i:Nat) (a:Addr) (x:α),as[i]?⊂a->xs[i]?⊂x->R a x
def bX.nil{b:Type}{R:Addr->b->Prop}:bX R [] []:=#[rfl,λi a x h=>by simp at h]
def bX.mono{b:Type}{R S:Addr->b->Prop}{as:L7}{xs:List b}(h:bX R as xs)(k:∀a x,R a x->S a x):bX S as xs:=#[h.1,λi a x c d=>k a x (h.2 i a x c d)]
def bX.snoc{f:Type}{R:Addr->f->Prop}{as:L7}{xs:List f}{a:Addr}{x:f}(h:bX R as xs)(k:R a x):bX R (as++[a]) (xs++[x]):=by
 have j:=h.1;erw[by simp[j],λi b y c d=>?_];by_cases g:i<⇑as
 .rw[vB g]at c;rw[vB ⋯]at d;rwa[h.2 i b y c d]
 .rw[vC ⋯]at c;rw[vC ⋯]at d;have e:i-⇑as=0:=by
   have:=(vx.mp c).1;simp at this;lia
  rw[e]at c;rw[show i-⇑xs=0 by lia]at d;simp at c d;subst c d;rwa[k]
def bX.get{b:Type}{R:Addr->b->Prop}{as:L7}{xs:List b}{i:Nat}{x:b}(h:bX R as xs)(d:xs[i]?⊂x):∃a,as[i]?⊂a/\R a x:=by
 have e:=(vx.mp d).1;have f:=h.1;have c:as[i]?⊂as[i]:=vz ⋯;rwa[_,c,h.2 i _ _ c d]
section
variable{m:Rr}{f:Fm}{ks:L5}{g:Int}
def getD_snoc{a:Type}{l:List a}{x d:a}{j:Nat}(h:j<⇑l):(l++[x]).getD j d=l.getD j d:=by
 rw[vy,vy,vB h]
def getD_last{a:Type}{l:List a}{x d:a}:(l++[x]).getD ⇑l d=x:=by
 rw[vy,vC (vb _),ur];rfl
end
def getD_in{a:L8}{n:Nat}(h:n<⇑a):a.getD n ⟨#[]⟩∈a:=by
 simp_all
def Zw{as:L7}{i:Int}{a:Addr}(b:0<=i)(h:as[i.toNat]?⊂a):eZ (as.map V.ref) i=↥a:=by
 have e:eZ (as.map V.ref) ((i.toNat:Nat):Int)=↥a:=jS (by simp_all);rw[Int.toNat_of_nonneg b]at e;rwa[e]
open PySem PySem.Spec PyProof.Rows L2
noncomputable def vN(j:Nat):V:=.int j
theorem KU:∀{ks:L5} {lo hi:Int},ks.Pairwise (· < ·)->(∀k∈ks,lo<=k/\k<hi)->⇑ks<=(hi-lo).toNat
 | [],_,_,_,_=>va _
 | k::r,lo,hi,h,b=>by
  have c:=KU (ks:=r) (lo:=k+1) (hi:=hi) (vV.mp h).2 λx a=>#[(vV.mp h).1 x a,(b x (vp _ a)).2]
  have d:=b k vq;rw[vQ];lia
def sI{H:Hp}(h:H a⊂(.lst [])):DV H (.ref a) (.list []):=.lst h .nil
def nj:SeqAt.shaped (.list [])=true:=PySem.W.ke_shaped_ints []
theorem Di(n:Int):∀hs:L5,nZ (.int n) (hs.map V.int)=decide (n∈hs)
 | []=>rfl
 | h::r=>by
  have a:=Di n r;unfold nZ at a|-;rw[v9,any_cons,a];have e:mK (.int h) (.int n)=decide (h=n):=by
   show decide _=_;simp
  grind
def E4(n:Int)(a:L5):(if false=true then !nZ (.int n) (a.map V.int)else nZ (.int n) (a.map V.int))=decide (n∈a):=by rw[vc nofun,Di]
theorem pK:∀hs:L5,(hs.map V.int).all eJ=true
 | []=>rfl
 | h::r=>by rw[v9,all_cons,pK r];rfl
def take_snoc{a:Type}{l:List a}{i:Nat}{x:a}(h:l[i]?⊂x):l.take (i+1)=l.take i++[x]:=by
 rw[List.take_add_one,h];rfl
def tJ{is:L6}{i:Nat}{x:V}(h:(is.map vN)[i]?⊂x):∃j,is[i]?⊂j/\x = .int j/\j∈is:=by
 rw[vv]at h;let⟨j,a,rfl⟩:=vg.mp h;rwa[j,a,rfl,vm a]
def Ht{ms c:L5}(e:ms.Perm c)(f:c.Nodup)(d:ms.Pairwise (·<=·)):ms.Pairwise (· < ·):=
 (List.Pairwise.and d (e.nodup_iff.mpr f)).imp λ{a b} h=>by have g:=h.1;have i:a≠b:=h.2;lia
def iT(n:Nat)(d:PyData):Prop:=d.canLay0=true/\d.depth<=n
def iT.int:iT 0 (.int i):=#[rfl,vb _]
def iT.str(h:PyData.strOk x=true):iT 0 (.str x):=#[h,vb _]
def iT.mono(h:iT n d)(a:n<=k):iT k d:=#[h.1,vW h.2 a]
theorem Ay:∀{ds:List PyData},(∀d∈ds,iT n d)->PyData.canLayAll0 ds=true/\PyData.depthAll ds<=n
 | [],_=>#[rfl,va _]
 | d::r,h=>by
  have a:=h d vq;have b:=Ay (ds:=r) λx c=>h x (vp _ c)
  constructor
  .show(d.canLay0&&PyData.canLayAll0 r)=true;rw[a.1,b.1];rfl
  .show max d.depth (PyData.depthAll r)<=n;rwa[Nat.max_le.mpr #[a.2,b.2]]
def iT.lst(h:∀d∈ds,iT n d):iT (n+1) (.list ds):=#[(Ay h).1,Nat.succ_le_succ (Ay h).2]
def iT.ok(h:iT n d)(a:n<=64):SeqAt.shaped d=true:=by
 unfold SeqAt.shaped;rw[h.1,Bool.true_and];rwa[vG (vW h.2 a)]
def Mt(h:Ws.fR x=true):PyData.strOk x=true:=by
 unfold Ws.fR Ws.among at h;rw[Bool.and_eq_true]at h;have a:=of_decide_eq_true h.2;unfold PyData.strOk;rw[Array.all_eq_true_iff_forall_mem];intro c b;have:=Ig.mp (a c #v[b]);rwa[vG ⋯]
theorem zI{H:Hp}:∀(xs:L8),hJ H (xs.map V.str) (xs.map PyData.str)
 | []=>.nil
 | x::r=>.cons (.str x) (zI r)
def bX.tail{c:Type}{R:Addr->c->Prop}{a:Addr}{x:c}{as:L7}{xs:List c}(h:bX R (a::as) (x::xs)):R a x/\bX R as xs:=
 #[h.2 0 a x rfl rfl,Nat.succ.inj h.1,λi b y d e=>h.2 (i+1) b y #v[d] #v[e]]
noncomputable def zq:Fm->Prop
 | .hold n=>0<=n/\n<=10^18
 | .ring x n=>Ws.fR x=true/\0<=n/\n<=10^18
 | .rise x h n=>Ws.fR x=true/\0<=h/\h<=10^18/\0<=n/\n<=10^18
 | .row ps=>⇑ps<=8/\∀x∈ps,Ws.fR x=true
 | .side ps=>⇑ps<=8/\∀x∈ps,Ws.fR x=true
 | .again k x=>0<=k/\k<=10^18/\Ws.fR x=true
structure sM(ls:L4)(ps:N1):Prop where
 l8:⇑ls<=8
 ln:∀p∈ls,Ws.fR p.1=true/\0<=p.2/\p.2<=10^18
 nF:⇑ps<=61
 pn:∀p∈ps,Ws.fR p.1=true/\zq p.2
def CU{n:Nat}{xs:L8}(h:∀x∈xs,Ws.fR x=true):∀d∈xs.map PyData.str,iT n d:=λd a=>by
 let⟨x,b,rfl⟩:=vK.mp a;rwa[(iT.str (Mt (h x b))).mono (va _)]
structure cE(H:Hp)(b pl pp:Addr)(las pas:L7)(ls:L4)(ps:N1):Prop where
 t:H b⊂(.tup [.ref pl,.ref pp])
 l:H pl⊂(.lst (las.map V.ref))
 la:bX (ft H) las ls
 p:H pp⊂(.lst (pas.map V.ref))
 pa:bX (cU H) pas ps
def cf.same{H H':Hp}(s:bU H H')(h:cf H a f):cf H' a f:=by
 cases f with
 | row ps=>let⟨b,c,d⟩:=h;rwa[b,s _ _ c,s _ _ d]
 | side ps=>let⟨b,c,d⟩:=h;rwa[b,s _ _ c,s _ _ d]
 | hold n=>rwa[s _ _ h]
 | ring x n=>rwa[s _ _ h]
 | rise x g n=>rwa[s _ _ h]
 | again x n=>rwa[s _ _ h]
def cU.same{H H':Hp}(s:bU H H')(h:cU H a p):cU H' a p:=by
 let⟨b,c,d⟩:=h;rwa[b,s _ _ c,cf.same s d]
def cE.same{H H':Hp}(B:cE H b pl pp las pas ls ps)(s:bU H H'):cE H' b pl pp las pas ls ps:=
 #[s _ _ B.t,s _ _ B.l,B.la.mono λa x h=>s _ _ h,s _ _ B.p,B.pa.mono λa x h=>cU.same s h]
def getD_inj{a:L8}(d:a.Nodup){i j:Nat}(hi:i<⇑a)(b:j<⇑a)(h:a.getD i ⟨#[]⟩=a.getD j ⟨#[]⟩):i=j:=by
 rw[vy,vy,vz hi,vz b]at h;have c:a[i]=a[j]:=h;rcases Nat.lt_trichotomy i j with q | q | q
 .exact uf c (pairwise_iff_getElem.mp d i j hi b q)
 .exact q
 .exact uf c.symm (pairwise_iff_getElem.mp d j i b hi q)
open PyProof.Rows.KTD (inKeys Dat)
def iw:eZ (x::xs) 0⊂x:=jS (j:=0) rfl
def fe{A B:Prop}(e:b=false)(h:B):if b=true then A else B:=by rw[e];rwa[h]
def lR{A B:Prop}(e:b=true)(h:A):if b=true then A else B:=by rw[e];rwa[h]
def bX.cD{e:Type}{R:Addr->e->Prop}{as:L7}{xs:List e}{i:Nat}{v:V}(h:bX R as xs)(c:(as.map V.ref)[i]?⊂v):∃a x,v = .ref a/\xs[i]?⊂x/\R a x:=by
 rw[vv]at c;let⟨a,b,rfl⟩:=vg.mp c;have f:=(vx.mp b).1;have g:=h.1;have d:xs[i]?⊂xs[i]:=vz ⋯;rwa[a,_,rfl,d,h.2 i a _ b d]
theorem YM:∀{n:Nat} {hs:L5},hs.Nodup->(∀k∈hs,0<=k/\k<(n:Int))->⇑hs<=n
 | 0,hs,_,h=>by
  cases hs with
  | nil=>rwa[vb _]
  | cons k r=>have:=h k vq;lia
 | n+1,hs,nd,h=>by
  by_cases e:(n:Int)∈hs
  .have i:=YM (n:=n) (nd.erase (n:Int)) λk a=>by
    have b:=h k (List.mem_of_mem_erase a);have c:k≠(n:Int):=λz=>nd.not_mem_erase (z▸a)
    lia
   simp_all
  .have i:=YM (n:=n) nd λk a=>by
    have b:=h k a;have c:k≠(n:Int):=λz=>e (z▸a)
    lia
   lia
noncomputable def Fm.ns:Fm->L8
 | .row ps=>ps
 | .side ps=>ps
 | .again _ x=>[x]
 | _=>[]
noncomputable def fZ(xs:L8):List (Key×V):=xs.zipIdx.map λp=>(Sum.inr p.1,.int (p.2:Nat))
def GB(xs:L8)(x:Str):fZ (xs++[x])=fZ xs++[(Sum.inr x,.int (⇑xs:Nat))]:=by
 unfold fZ;rw[List.zipIdx_append,vj];simp
def HH(xs:L8):⇑(fZ xs)=⇑xs:=by simp[fZ]
def Xd(xs:L8):(fZ xs).map (·.1)=xs.map Sum.inr:=by
 unfold fZ;rw[v6];have e:∀(k:Nat) (xs:L8),(xs.zipIdx k).map (Function.comp (λx=>x.1) λp:Str×Nat=>((Sum.inr p.1:Key),V.int (p.2:Nat)))=xs.map Sum.inr:=λk xs=>by
  induction xs generalizing k with
  | nil=>rfl
  | cons x r ih=>simp_all
 rwa[e 0 xs]
def Lv{xs:L8}{j:Nat}{x:Str}(h:xs[j]?⊂x):(fZ xs)[j]?⊂(Sum.inr x,.int (j:Nat)):=by
 unfold fZ
 simp_all
theorem WY:∀{kvs:List (Key×V)} {j:Nat} {k:Key} {v:V},(kvs.map (·.1)).Nodup->kvs[j]?⊂(k,v)->cX kvs k⊂v
 | [],j,k,v,_,h=>by simp at h
 | p::r,0,k,v,_,h=>by
  simp at h;subst h;unfold cX;simp
 | p::r,j+1,k,v,nd,h=>by
  rw[v9,uo]at nd;have a:r[j]?⊂(k,v):=by simpa using h
  have c:p.1≠k:=λe=>nd.1 (e▸vK.mpr #[(k,v),vm a,rfl])
  have b:=WY nd.2 a;unfold cX at b|-;rw[List.find?_cons,vH c];rwa[b]
def Yl{xs:L8}(a:xs.Nodup){j:Nat}{x:Str}(h:xs[j]?⊂x):cX (fZ xs) (Sum.inr x)⊂(.int (j:Nat)):=
 WY (by rw[Xd];rwa[pairwise_map.mpr (a.imp λh e=>h (Sum.inr.inj e))]) (Lv h)
def Z8{kvs:List (Key×V)}{k:Key}{v:V}(h:k∉kvs.map (·.1)):putK kvs k v=kvs++[(k,v)]:=by
 unfold putK
 simp_all
noncomputable def cu:L8->Str->Nat
 | [],_=>0
 | y::r,x=>if y=x then 0 else cu r x+1
theorem jV:∀{xs:L8} {j:Nat} {x:Str},xs.Nodup->xs[j]?⊂x->cu xs x=j
 | [],j,x,_,h=>by simp at h
 | y::r,0,x,_,h=>by
  simp at h;subst h;rwa[vd rfl]
 | y::r,j+1,x,nd,h=>by
  rw[uo]at nd;have a:r[j]?⊂x:=by simpa using h
  have b:y≠x:=λe=>nd.1 (e▸vm a)
  show(if y=x then 0 else cu r x+1)=j+1;rw[vc b,jV nd.2 a]
noncomputable def bQ{α:Type}(ps:List (Str×α)):L8:=ps.map (·.1)
noncomputable def cM(ps:N1)(f:Fm):L6:=f.ns.map (cu (bQ ps))
structure dX(ls:L4)(ps:N1):Prop where
 ln:(bQ ls).Nodup
 l8:⇑ls<=8
 pn:(bQ ps).Nodup
 nF:⇑ps<=61
 f:∀(i:Nat) (p:Str×Fm),ps[i]?⊂p->(∀x∈p.2.ns,∃j,j<i/\(bQ ps)[j]?⊂x)/\⇑p.2.ns<=8
 r:∀(i:Nat) (y x:Str) (h n:Int),ps[i]?⊂(y,.rise x h n)->∃j:Nat,(bQ ls)[j]?⊂x
def dX.cQ(W:dX ls ps)(h:ps[i]?⊂p)(a:j∈cM ps p.2):j<i:=by
 let⟨x,c,rfl⟩:=vK.mp a;let⟨k,b,e⟩:=(W.f i p h).1 x c;rw[jV W.pn e];rwa[b]
inductive cS(vs:N2)(H:Hp)(Q:VK)(xk:XK):Prop
 | mk (l) (as:L7) (xs:L8):vs=[.ref l]->H l⊂(.lst (as.map V.ref))->⇑as=⇑xs->(∀(i:Nat) (a:Addr) (x:Str),as[i]?⊂a->xs[i]?⊂x->∃r,H a⊂(.tup [.str x,r]))->xs.Nodup->⇑xs<=100->(∀(d:Addr) (H':Hp),bU H H'->H d=none->H' d⊂(.dK (fZ xs))->Q (.ref d) H')->cS vs H Q xk
def fG(H:Hp)(as:L7)(M:L1):Prop:=bX (λa ks=>H a⊂(.lst (ks.map V.int))) as M
def bX.mM{c:Type}{R S:Addr->c->Prop}{as:L7}{xs:List c}(h:bX R as xs)(k:∀a∈as,∀x,R a x->S a x):bX S as xs:=#[h.1,λi a x b d=>k a (vm b) x (h.2 i a x b d)]
inductive fD(vs:N2)(H:Hp)(Q:VK)(xk:XK):Prop
 | mk (b pl pp las pas ls) (ps:N1):vs=[.ref b]->cE H b pl pp las pas ls ps->dX ls ps->(∀(l:Addr) (as:L7) (H':Hp),bU H H'->H l=none->H' l⊂(.lst (as.map V.ref))->(∀a∈as,H a=none)->fG H' as (ps.map λp=>(cM ps p.2).map λj:Nat=>(j:Int))->Q (.ref l) H')->fD vs H Q xk
def sX(H:Hp)(bs:L7)(e:Np):Prop:=bX (λb q=>H b⊂(.tup [.int q.1,.int q.2])) bs e
def mh(H:Hp)(as:L7)(E:L0):Prop:=bX (λa e=>∃bs,H a⊂(.lst (bs.map V.ref))/\sX H bs e) as E
def cF(E:L0)(is:L6)(k v:Int):Prop:=∃pre j post,is=pre++j::post/\(k,v)∈E.getD j []/\∀j'∈post,∀v',(k,v')∉E.getD j' []
def g8(ls:L4)(ps:N1)(E:L0)(f:Fm)(k v:Int):Prop:=cF E (cM ps f) k v\/∃x n,f = .rise x v n/\k=(cu (bQ ls) x:Nat)
def c9(ls:L4)(ps:N1)(E:L0):Prop:=∀(i:Nat) (p:Str×Fm) (e:Np),ps[i]?⊂p->E[i]?⊂e->(e.map (·.1)).Pairwise (· < ·)/\∀k v,(k,v)∈e↔g8 ls ps E p.2 k v
inductive h7(vs:N2)(H:Hp)(Q:VK)(xk:XK):Prop
 | mk (b pl pp las pas ls) (ps:N1):vs=[.ref b]->cE H b pl pp las pas ls ps->dX ls ps->(∀(l:Addr) (as:L7) (E:L0) (H':Hp),bU H H'->H l=none->H' l⊂(.lst (as.map V.ref))->(∀a∈as,H a=none)->⇑E=⇑ps->mh H' as E->c9 ls ps E->Q (.ref l) H')->h7 vs H Q xk
def dJ(ls:L4)(ps:N1)(M:L1):Prop:=∀(i:Nat) (p:Str×Fm) (ks:L5),ps[i]?⊂p->M[i]?⊂ks->ks.Pairwise (· < ·)/\∀k,k∈ks↔(∃j∈cM ps p.2,k∈M.getD j [])\/∃x h n,p.2 = .rise x h n/\k=(cu (bQ ls) x:Nat)
inductive iJ(vs:N2)(H:Hp)(Q:VK)(xk:XK):Prop
 | mk (b pl pp las pas ls) (ps:N1):vs=[.ref b]->cE H b pl pp las pas ls ps->dX ls ps->(∀(l:Addr) (as:L7) (M:L1) (H':Hp),bU H H'->H l=none->H' l⊂(.lst (as.map V.ref))->(∀a∈as,H a=none)->⇑M=⇑ps->fG H' as M->dJ ls ps M->Q (.ref l) H')->iJ vs H Q xk
theorem u6:∀{a b:L5},a.Pairwise (· < ·)->b.Pairwise (· < ·)->(∀k,k∈a↔k∈b)->a=b
 | [],[],_,_,_=>rfl
 | [],y::s,_,_,h=>uf ((h y).mpr vq) (by simp)
 | x::r,[],_,_,h=>uf ((h x).mp vq) (by simp)
 | x::r,y::s,ha,hb,h=>by
  rw[vV]at ha hb;have e:x=y:=by
   rcases mem_cons.mp ((h x).mp vq)with q | q
   .exact q
   .rcases mem_cons.mp ((h y).mpr vq)with d | d
    .exact d.symm
    .have f:=hb.1 x q;have g:=ha.1 y d;lia
  subst e;congr 1;erw[u6 ha.2 hb.2 λk=>#[λc=>?_,λc=>?_]]
  .rcases mem_cons.mp ((h k).mp (vp _ c))with q | q
   .have:=ha.1 k c;lia
   .exact q
  .rcases mem_cons.mp ((h k).mpr (vp _ c))with q | q
   .have:=hb.1 k c;lia
   .exact q
def getD_map{E:L0}(j:Nat):(E.map λe=>e.map (·.1)).getD j []=(E.getD j []).map (·.1):=by
 rw[vy,vy,vv];cases E[j]?<;>rfl
def XW{k:Int}{e:Np}:k∈e.map (·.1)↔∃v,(k,v)∈e:=by
 simp_all
theorem wN:∀{is:L6},(∃v,cF E is k v)↔∃j∈is,∃v,(k,v)∈E.getD j []
 | []=>#[λ⟨v,b,j,a,e,_⟩=>by cases b<;>simp at e,λ⟨j,h,_⟩=>by simp at h]
 | i::r=>by
  have p:=wN (E:=E) (k:=k) (is:=r);constructor
  .rintro⟨v,b,j,a,e,c,m⟩;rwa[j,by rw[e];simp,v,c]
  .rintro⟨j,d,v,n⟩;by_cases q:∃j∈r,∃v,(k,v)∈E.getD j []
   .let⟨l,b,g,a,e,c,m⟩:=p.mpr q;rwa[l,i::b,g,a,by rw[e];rfl,c,m]
   .rcases mem_cons.mp d with rfl | d
    .exact#[v,[],j,r,rfl,n,λg o l f=>q #[g,o,l,f]]
    .exact uf #[j,d,v,n] q
def En{ls:L4}{ps:N1}{E:L0}(s:⇑E=⇑ps)(h:c9 ls ps E):dJ ls ps (E.map λe=>e.map (·.1)):=λi p t q d=>by
 rw[vv]at d;let⟨e,o,rfl⟩:=vg.mp d;let⟨a,b⟩:=h i p e q o;erw[a,λk=>?_];rw[XW];constructor
 .rintro⟨v,r⟩;rcases(b k v).mp r with z | ⟨x,n,f,g⟩
  .let⟨j,l,m,c⟩:=wN.mp #[v,z];rwa[.inl #[j,l,by rw[getD_map];rwa[XW.mpr #[m,c]]]]
  .exact .inr #[x,v,n,f,g]
 .rintro(⟨j,l,d⟩ | ⟨x,h,n,f,g⟩)
  .rw[getD_map]at d;let⟨m,c⟩:=XW.mp d;let⟨v,z⟩:=wN.mpr #[j,l,m,c];rwa[v,(b k v).mpr (.inl z)]
  .exact#[h,(b k h).mpr (.inr #[x,n,f,g])]
def Dl(h:x∈xs):cu xs x<⇑xs:=by
 induction xs with
 | nil=>rwa[nomatch h]
 | cons y r ih=>
  show(if y=x then 0 else cu r x+1)<⇑r+1;split
  .lia
  .rename_i hne;rcases mem_cons.mp h with e | e
   .exact uf e.symm hne
   .have:=ih e;lia
def kF(W:dX ls ps)(s:⇑E<=⇑ps)(h:c9 ls ps E):∀(i:Nat),∀q∈E.getD i [],0<=q.1/\q.1<(⇑ls:Int):=by
 intro i
 induction i using Nat.strongRecOn with
 | ind i ih=>
  intro q a;rw[vy]at a;cases e:E[i]? with
  | none=>rw[e]at a;rwa[nomatch a]
  | some ev=>
   rw[e]at a;have r:=(vx.mp e).1;have f:ps[i]?⊂ps[i]:=vz ⋯;let⟨Z,b⟩:=h i _ ev f e;rcases(b q.1 q.2).mp a with⟨m,j,k,c,d,_⟩ | ⟨x,n,c,d⟩
   .exact ih j (W.cQ f (by rw[c];simp)) _ d
   .have g:ps[i]?⊂(ps[i].1,.rise x q.2 n):=by rw[f,<-c]
    let⟨j,l⟩:=W.r i _ _ _ _ g;have o:=Dl (vm l);have p:⇑(bQ ls)=⇑ls:=vt _;rw[d];lia
def Ca{ls:L4}{ps:N1}(W:dX ls ps){E:L0}(f:⇑E<=⇑ps)(h:c9 ls ps E){i:Nat}{e:Np}(c:E[i]?⊂e):⇑e<=8:=by
 have hi:=(vx.mp c).1;have a:=(h i _ e (vz ⋯) c).1;have b:=kF W f h i;rw[vy,c]at b;have z:=KU (ks:=e.map (·.1)) (lo:=0) (hi:=⇑ls) a λk d=>by
  let⟨q,g,rfl⟩:=vK.mp d;rwa[b q g]
 rw[vt]at z;have:=W.l8;lia
noncomputable def iz(kvs:Np)(k v:Int):Np:=if k∈kvs.map (·.1)then kvs.map (λq=>if q.1=k then(q.1,v)else q)else kvs++[(k,v)]
noncomputable def fw(kvs more:Np):Np:=more.foldl (λacc q=>iz acc q.1 q.2) kvs
def HW(kvs:Np)(k v:Int):putK (kvs.map i5) (Sum.inl k) (.int v)=(iz kvs k v).map i5:=by
 have e:(((kvs.map i5).any λkv=>decide (kv.1=(Sum.inl k:Key)))=true)↔k∈kvs.map (·.1):=by
  rw[List.any_map,any_eq_true];constructor
  .rintro⟨q,a,h⟩;have b:(Sum.inl q.1:Key)=Sum.inl k:=of_decide_eq_true h;rwa[vK.mpr #[q,a,Sum.inl.inj b]]
  .intro h;let⟨q,a,rfl⟩:=vK.mp h;rwa[q,a,vG rfl]
 unfold putK iz;by_cases c:k∈kvs.map (·.1)
 .rw[vd (e.mpr c),vd c,v6,v6];refine map_congr_left λq j=>?_
  show(if(Sum.inl q.1:Key)=Sum.inl k then _ else _)=i5 (if q.1=k then(q.1,v)else q);by_cases z:q.1=k
  .rw[vd z,vd (by rw[z])];rfl
  .rw[vc z,vc (λw=>z (Sum.inl.inj w))]
 .rw[vc (λw=>c (e.mp w)),vc c,vj];rfl
theorem Y9:∀(more kvs:Np),cG (kvs.map i5) (more.map i5)=(fw kvs more).map i5
 | [],kvs=>rfl
 | q::r,kvs=>by
  show cG (putK (kvs.map i5) (Sum.inl q.1) (.int q.2)) (r.map i5)=(fw (iz kvs q.1 q.2) r).map i5;rw[HW,Y9 r]
def GW(kvs:Np)(k v:Int)(d:(kvs.map (·.1)).Nodup):((iz kvs k v).map (·.1)).Nodup:=by
 unfold iz;split
 .rw[v6];have e:kvs.map (Function.comp (λx=>x.1) λq=>if q.1=k then(q.1,v)else q)=kvs.map (·.1):=map_congr_left λq j=>by
   show(if q.1=k then(q.1,v)else q).1=q.1;split<;>rfl
  rw[e];rwa[d]
 .rename_i c;rw[vj,nodup_append];rwa[d,pairwise_singleton _ _,λa f b g e=>c (by rw[show k=b from(vo.mp g).symm,<-e];rwa[f])]
def Ih:(a,b)∈iz kvs k v↔(a=k/\b=v)\/(a≠k/\(a,b)∈kvs):=by
 unfold iz;split
 .rename_i c;rw[vK];constructor
  .rintro⟨q,d,e⟩;by_cases z:q.1=k
   .rw[vd z]at e;cases e;rwa[.inl #[z,rfl]]
   .rw[vc z]at e;subst e;rwa[.inr #[z,d]]
  .rintro(⟨rfl,rfl⟩ | ⟨f,g⟩)
   .let⟨q,d,e⟩:=vK.mp c;rwa[q,d,by rw[vd e,e]]
   .exact#[(a,b),g,by rw[vc f]]
 .rename_i c;rw[vh];constructor
  .rintro(h | h)
   .exact .inr #[λe=>c (e▸vK.mpr #[(a,b),h,rfl]),h]
   .cases vo.mp h;rwa[.inl #[rfl,rfl]]
  .rintro(⟨rfl,rfl⟩ | ⟨_,h⟩)
   .exact .inr (vo.mpr rfl)
   .exact .inl h
theorem xY:∀{more kvs:Np},(kvs.map (·.1)).Nodup->(more.map (·.1)).Nodup->((fw kvs more).map (·.1)).Nodup/\∀k v,(k,v)∈fw kvs more↔(k,v)∈more\/((∀c,(k,c)∉more)/\(k,v)∈kvs)
 | [],kvs,nd,_=>#[nd,λk v=>#[λh=>.inr #[(λZ h=>nomatch h),h],λh=>h.elim (λh=>nomatch h) (·.2)]]
 | q::r,kvs,nd,nm=>by
  rw[v9,uo]at nm;let⟨a,b⟩:=xY (more:=r) (kvs:=iz kvs q.1 q.2) (GW _ _ _ nd) nm.2;erw[a,λk v=>(b k v).trans ?_];rw[Ih];have i:∀c,(q.1,c)∉r:=λc h=>nm.1 (vK.mpr #[_,h,rfl])
  constructor
  .rintro(h | ⟨f,⟨rfl,rfl⟩ | ⟨g,j⟩⟩)
   .exact .inl (vp _ h)
   .exact .inl vq
   .refine .inr #[λc d=>?_,j];rcases mem_cons.mp d with e | e
    .exact g (by rw[<-e])
    .exact f c e
  .rintro(h | ⟨f,g⟩)
   .rcases mem_cons.mp h with e | e
    .refine .inr #[λc d=>?_,.inl #[by rw[<-e],by rw[<-e]]];rw[<-e]at i;rwa[i c d]
    .exact .inl e
   .refine .inr #[λc d=>f c (vp _ d),.inr #[λe=>?_,g]];rwa[f q.2 (by rw[e];rwa[vq])]
def FI(b:(ms.map (·.1)).Nodup):fw [] ms=ms:=by
 have e:∀(r a:Np),((a++r).map (·.1)).Nodup->fw a r=a++r:=by
  intro r
  induction r with
  | nil=>intro a j;rwa[(append_nil _).symm]
  | cons q r ih=>
   intro a b;have c:q.1∉a.map (·.1):=λh=>by
    rw[vj,nodup_append]at b;rwa[b.2.2 q.1 h q.1 (by simp) rfl]
   show fw (iz a q.1 q.2) r=_;unfold iz;rw[vc c,ih (a++[(q.1,q.2)]) (by rw[List.append_assoc];rwa[b]),List.append_assoc];rfl
 rwa[e ms [] b]
def Gj:cF E (is++[j]) k v↔(k,v)∈E.getD j []\/((∀g,(k,g)∉E.getD j [])/\cF E is k v):=by
 constructor
 .rintro⟨c,i,a,e,l,f⟩;rcases List.eq_nil_or_concat a with rfl | ⟨b,x,rfl⟩
  .simp_all
  .have o:is++[j]=(c++i::b)++[x]:=by rw[e];simp
   have n:=List.append_inj' o rfl;have p:j=x:=by simpa using n.2
   subst p;rwa[.inr #[f j (by simp),c,i,b,n.1,l,λm d=>f m (by simp[d])]]
 .rintro(h | ⟨l,c,i,a,e,f,q⟩)
  .exact#[is,j,[],rfl,h,(λZ h=>nomatch h)]
  .refine#[c,i,a++[j],by rw[e];simp,f,λm d g=>?_];rcases vh.mp d with z | z
   .exact q m z g
   .rw[vo.mp z];rwa[l g]
def Z3(h:∀j∈is,E.getD j []=E'.getD j []):cF E is k v->cF E' is k v:=by
 rintro⟨c,j,b,e,f,g⟩;erw[c,j,b,e,by rw[<-h j (by rw[e];simp)];rwa[f],λd a=>?_];rw[<-h d (by rw[e];simp[a])];rwa[g d a]
def c9.snoc{ls:L4}{ps:N1}(W:dX ls ps){E:L0}{p:Str×Fm}{e:Np}(h:c9 ls ps E)(u:ps[⇑E]?⊂p)(o:(e.map (·.1)).Pairwise (· < ·))
  (r:∀k v,(k,v)∈e↔g8 ls ps E p.2 k v):c9 ls ps (E++[e]):=λi q f g c=>by
 have t:i<=⇑E:=by
  have:=(vx.mp c).1;rw[vn]at this;rwa[Nat.le_of_lt_succ this]
 have ext:∀j∈cM ps q.2,E.getD j []=(E++[e]).getD j []:=λj l=>(getD_snoc (by have:=W.cQ g l;lia)).symm
 have d:∀k v,g8 ls ps E q.2 k v↔g8 ls ps (E++[e]) q.2 k v:=λk v=>by
  unfold g8;rwa[λh=>h.imp (Z3 ext) id,λh=>h.imp (Z3 λj l=>(ext j l).symm) id]
 by_cases s:i<⇑E
 .rw[vB s]at c;let⟨a,b⟩:=h i q f g c;rwa[a,λk v=>(b k v).trans (d k v)]
 .have n:i=⇑E:=⋯
  subst n;rw[vC (vb _),ur]at c;have m:e=f:=by simpa using c
  subst m;rw[u]at g;cases g;rwa[o,λk v=>(r k v).trans (d k v)]
def Cj{H:Hp}(h:cf H a f)(d:∀x v n,f≠.rise x v n):∃k xs,H a⊂(.tup (.str k::xs))/\decide (k=("raise" : Str))=false:=by
 cases f with
 | hold n=>rwa[_,_,h,by trivial]
 | ring x n=>rwa[_,_,h,by trivial]
 | rise x v n=>rwa[uf rfl (d x v n)]
 | row ps=>let⟨b,c,q⟩:=h;rwa[_,_,c,by trivial]
 | side ps=>let⟨b,c,q⟩:=h;rwa[_,_,c,by trivial]
 | again k x=>rwa[_,_,h,by trivial]
noncomputable def rS(ls:L4):Fm->List (Int×Int)
 | .rise x h _=>[((cu (bQ ls) x:Nat),h)]
 | _=>[]
def IY(a:∀x v n,f≠.rise x v n):rS ls f=[]:=by
 cases f with
 | rise x v n=>rwa[uf rfl (a x v n)]
 | _=>rfl
def XX:(k,v)∈rS ls f↔∃x n,f = .rise x v n/\k=(cu (bQ ls) x:Nat):=by
 cases f with
 | rise x h n=>
  constructor
  .intro a;cases vo.mp a;rwa[x,n,rfl,rfl]
  .rintro⟨c,b,e,rfl⟩;injection e with e1 e2 e3;subst e1 e2;rwa[vo.mpr rfl]
 | _=>rwa[(λh=>nomatch h),λ⟨_,_,e,_⟩=>nomatch e]
def Nc(f:Fm):cM ps f=[]\/rS ls f=[]:=by
 cases f with
 | rise x h n=>rwa[.inl rfl]
 | _=>rwa[.inr rfl]
def Nd(f:Fm):((rS ls f).map (·.1)).Nodup:=by
 cases f with
 | rise x h n=>rwa[pairwise_singleton _ _]
 | _=>rwa[.nil]
inductive eI(vs:N2)(H:Hp)(Q:VK)(xk:XK):Prop
 | mk (r l ll) (as las:L7) (M:L1):vs=[.int r,.ref l,.ref ll]->H l⊂(.lst (as.map V.ref))->fG H as M->(∀ks∈M,ks≠[])->⇑M<=8->H ll⊂(.lst (las.map V.ref))->(∀k:Int,⇑(M.filter λks=>decide (k∈ks))<=1)->(∀H',bU H H'->Q .cV H')->eI vs H Q xk
noncomputable def ig:Fm->L5->Int->Prop
 | .hold n,_,g=>g=n
 | .ring _ n,_,g=>g=n
 | .rise _ _ n,_,g=>g=n
 | .row _,gs,g=>g=gs.sum
 | .side _,gs,g=>g∈gs/\∀x∈gs,x<=g
 | .again k _,gs,g=>∃y,gs.head?⊂y/\g=k*y
noncomputable def ij:Fm->L5->Prop
 | .side _,gs=>gs≠[]
 | .again k _,gs=>∃y r,gs=y::r/\0<=k/\k<=10^18/\0<=y/\y<=10^60
 | _,_=>True
inductive eQ(vs:N2)(H:Hp)(Q:VK)(xk:XK):Prop
 | mk (a l f) (gs:L5):vs=[.ref a,.ref l]->cf H a f->H l⊂(.lst (gs.map V.int))->ij f gs->(∀g,ig f gs g->Q (.int g) H)->eQ vs H Q xk
structure oG(ls:L4)(ps:N1)(gs:L5)(hs:L1):Prop where
 w:dX ls ps
 gl:⇑gs=⇑ps
 gb:∀i,i<⇑ps->0<=gs∘i/\gs∘i<=10^60
 mv:∀M:L1,⇑M=⇑ps->dJ ls ps M->∀i,i<⇑ps->M.getD i []=hs.getD i []
 ln:∀(i:Nat) (p:Str×Fm),ps[i]?⊂p->ij p.2 ((cM ps p.2).map λj=>gs∘j)/\∀g,ig p.2 ((cM ps p.2).map λj=>gs∘j) g->g=gs∘i
 sd:∀(i:Nat) (p:Str×Fm) (qs:L8),ps[i]?⊂p->p.2 = .side qs->(∀j∈cM ps p.2,hs.getD j []≠[])/\∀k:Int,⇑(((cM ps p.2).map λj=>hs.getD j []).filter λks=>decide (k∈ks))<=1
inductive gq(vs:N2)(H:Hp)(Q:VK)(xk:XK):Prop
 | mk (b pl pp las pas ls ps) (gs:L5) (hs):vs=[.ref b]->cE H b pl pp las pas ls ps->oG ls ps gs hs->(∀(l:Addr) (H':Hp),bU H H'->H l=none->H' l⊂(.lst (gs.map V.int))->Q (.ref l) H')->gq vs H Q xk
def any_empty{M:L1}(h:∀ks∈M,ks≠[]):(M.any λks=>decide (ks=[]))=false:=by
 rw[List.any_eq_false];intro ks a;simpa using h ks a
def IV{gs:L5}{i:Nat}(h:i<⇑gs):gs.take (i+1)=gs.take i++[gs∘i]:=by
 simp_all
def Bv{gs:L5}{i j:Nat}(hi:i<=⇑gs)(a:j<i):eZ ((gs.take i).map V.int) (j:Int)⊂(.int (gs∘j)):=by
 erw[jS ?_];rw[vv,List.getElem?_take,vd a,vy,vz ⋯];rfl
theorem AA:∀{a b:Np},(a.map (·.1)).Pairwise (· < ·)->(b.map (·.1)).Pairwise (· < ·)->(∀k v,(k,v)∈a↔(k,v)∈b)->a=b
 | [],[],_,_,_=>rfl
 | [],y::s,_,_,h=>uf ((h y.1 y.2).mpr vq) (by simp)
 | x::r,[],_,_,h=>uf ((h x.1 x.2).mp vq) (by simp)
 | x::r,y::s,ha,hb,h=>by
  rw[v9,vV]at ha hb;have g:∀q∈r,x.1<q.1:=λq d=>ha.1 _ (vK.mpr #[q,d,rfl])
  have i:∀q∈s,y.1<q.1:=λq d=>hb.1 _ (vK.mpr #[q,d,rfl])
  have e:x=y:=by
   rcases mem_cons.mp ((h x.1 x.2).mp vq)with q | q
   .exact q
   .rcases mem_cons.mp ((h y.1 y.2).mpr vq)with f | f
    .exact f.symm
    .have j:=i _ q;have l:=g _ f;simp only at j l;lia
  subst e;rw[AA ha.2 hb.2 λk v=>?_];constructor
  .intro c;rcases mem_cons.mp ((h k v).mp (vp _ c))with q | q
   .have:=g _ c;rw[<-q]at this;simp only at this;lia
   .exact q
  .intro c;rcases mem_cons.mp ((h k v).mpr (vp _ c))with q | q
   .have:=i _ c;rw[<-q]at this;simp only at this;lia
   .exact q
def Lp(W:dX ls ps)(m:⇑M=⇑ps)(h:dJ ls ps M):∀(i:Nat),∀k∈M.getD i [],0<=k/\k<(⇑ls:Int):=by
 intro i
 induction i using Nat.strongRecOn with
 | ind i ih=>
  intro k a;rw[vy]at a;cases e:M[i]? with
  | none=>rw[e]at a;rwa[nomatch a]
  | some ks=>
   rw[e]at a;have l:=(vx.mp e).1;have d:ps[i]?⊂ps[i]:=vz ⋯;let⟨q,b⟩:=h i _ ks d e;rcases(b k).mp a with⟨j,c,f⟩ | ⟨x,v,n,g,rfl⟩
   .exact ih j (W.cQ d c) k f
   .let⟨j,c⟩:=W.r i (ps[i]).1 x v n (by rw[d,<-g]);rw[jV W.ln c];have:=(vx.mp c).1;unfold bQ at this
    simp_all
def Dy{ls:L4}{ps:N1}(W:dX ls ps){M:L1}(d:⇑M=⇑ps)(h:dJ ls ps M){i:Nat}{ks:L5}(c:M[i]?⊂ks):⇑ks<=8:=by
 have hi:=(vx.mp c).1;have a:=(h i _ ks (vz ⋯) c).1;have b:=Lp W d h i;rw[vy,c]at b;have z:=KU (ks:=ks) (lo:=0) (hi:=⇑ls) a b;have:=W.l8;lia
def cf.keep{H H':Hp}(k:∀c xs,H c⊂.tup xs->H' c⊂.tup xs)(h:cf H a f):cf H' a f:=by
 cases f with
 | row ps=>let⟨c,b,d⟩:=h;rwa[c,k _ _ b,k _ _ d]
 | side ps=>let⟨c,b,d⟩:=h;rwa[c,k _ _ b,k _ _ d]
 | hold n=>rwa[k _ _ h]
 | ring x n=>rwa[k _ _ h]
 | rise x g n=>rwa[k _ _ h]
 | again x n=>rwa[k _ _ h]
def cU.keep{H H':Hp}(k:∀c xs,H c⊂.tup xs->H' c⊂.tup xs)(h:cU H a p):cU H' a p:=by
 let⟨b,d,e⟩:=h;rwa[b,k _ _ d,cf.keep k e]
def bX.set{f:Type}{R:Addr->f->Prop}{as:L7}{xs:List f}(h:bX R as xs){k:Nat}{a:Addr}{x:f}(g:R a x):bX R (as.set k a) (xs.set k x):=by
 erw[by rw[length_set,length_set];rwa[h.1],λi b y c d=>?_];rw[List.getElem?_set]at c d;by_cases e:k=i
 .rw[vd e]at c d;split at c
  .split at d
   .cases c;cases d;rwa[g]
   .cases d
  .cases c
 .rw[vc e]at c d;rwa[h.2 i b y c d]
def G0(a:0<=i)(h:xs[i.toNat]?⊂c):eZ xs i⊂c:=by
 have q:∀k:Nat,xs[k]?⊂c->eZ xs (k:Int)⊂c:=λk d=>by
  let⟨b,rfl⟩:=vx.mp d;unfold eZ lS;simp[b]
 have:=q i.toNat h;rw[Int.toNat_of_nonneg a]at this;rwa[this]
def E6{n:Nat}{k:Int}(a:0<=k)(c:k<n):lS n k⊂k.toNat:=by
 have b:∀j:Nat,j<n->lS n (j:Int)⊂j:=λj h=>by
  unfold lS;simp[h]
 have q:=b k.toNat ⋯;rw[Int.toNat_of_nonneg a]at q;rwa[q]
noncomputable abbrev Pc:=Nat×Int×Int
noncomputable abbrev nO:=Nat×Int×Int×Option Int
noncomputable def cK(gs:L5):L6->Int->List Pc
 | [],_=>[]
 | j::r,b=>(j,1,b)::cK gs r (b+gs∘j)
noncomputable def cW(gs:L5)(f:Fm)(is:L6):List Pc:=
 match f with
 | .again k _=>match is with
  | []=>[]
  | j::_=>(j,1,0)::(if 1<k then[(j,k-1,gs∘j)]else[])
 | .row _=>cK gs is 0
 | _=>is.map λj=>(j,1,0)
def g9(H:Hp)(as:L7)(qs:List Pc):Prop:=bX (λa q=>H a⊂(.tup [.int (q.1:Nat),.int q.2.1,.int q.2.2])) as qs
def nQ(H:Hp)(as:L7)(qss:List (List Pc)):Prop:=bX (λa qs=>∃bs,H a⊂(.lst (bs.map V.ref))/\g9 H bs qs) as qss
inductive eU(vs:N2)(H:Hp)(Q:VK)(xk:XK):Prop
 | mk (a l s f) (is:L6) (gs:L5):vs=[.ref a,.ref l,.ref s]->cf H a f->(H l⊂(.lst ((is.map λj:Nat=>(j:Int)).map V.int)))->H s⊂(.lst (gs.map V.int))->⇑is<=8->(∀j∈is,j<⇑gs)->(∀k x,f = .again k x->is≠[])->(∀(p:Addr) (as:L7) (H':Hp),bU H H'->H p=none->H' p⊂(.lst (as.map V.ref))->g9 H' as (cW gs f is)->Q (.ref p) H')->eU vs H Q xk
inductive eV(vs:N2)(H:Hp)(Q:VK)(xk:XK):Prop
 | mk (b pl pp s las pas ls) (ps:N1) (gs:L5):vs=[.ref b,.ref s]->cE H b pl pp las pas ls ps->dX ls ps->H s⊂(.lst (gs.map V.int))->⇑gs=⇑ps->(∀(l:Addr) (as:L7) (H':Hp),bU H H'->H l=none->H' l⊂(.lst (as.map V.ref))->nQ H' as (ps.map λp=>cW gs p.2 (cM ps p.2))->(∀a∈as,H a=none)->Q (.ref l) H')->eV vs H Q xk
noncomputable def ov(gs:L5)(t:Int)(q:Pc):Int:=if q.2.1<(t-q.2.2)/gs∘q.1 then q.2.1 else(t-q.2.2)/gs∘q.1
noncomputable def dE(gs:L5)(t:Int)(q:Pc):Option nO:=
 if q.2.2<=t then some (q.1,q.2.2,ov gs t q,if ov gs t q<q.2.1 then some (t-q.2.2-ov gs t q*gs∘q.1)else none)else none
noncomputable def fj(gs:L5)(t:Int)(qs:List Pc):List nO:=qs.filterMap (dE gs t)
noncomputable def oY:Option Int->V
 | none=>.cV
 | some r=>.int r
def nP(H:Hp)(as:L7)(ys:List nO):Prop:=bX (λa y=>H a⊂(.tup [.int (y.1:Nat),.int y.2.1,.int y.2.2.1,oY y.2.2.2])) as ys
def mT(gs:L5)(q:Pc):Prop:=q.1<⇑gs/\1<=gs∘q.1/\gs∘q.1<=10^60/\1<=q.2.1/\q.2.1<=10^18/\0<=q.2.2/\q.2.2<=10^62
inductive ec(vs:N2)(H:Hp)(Q:VK)(xk:XK):Prop
 | mk (l s t) (bs:L7) (qs:List Pc) (gs:L5):vs=[.ref l,.ref s,.int t]->H l⊂(.lst (bs.map V.ref))->g9 H bs qs->H s⊂(.lst (gs.map V.int))->⇑qs<=8->(∀q∈qs,mT gs q)->0<=t->t<=10^62->(∀(p:Addr) (as:L7) (H':Hp),bU H H'->H p=none->H' p⊂(.lst (as.map V.ref))->nP H' as (fj gs t qs)->Q (.ref p) H')->ec vs H Q xk
def fk(H:Hp)(as:L7)(xs:L3):Prop:=bX (λa x=>H a⊂(.tup [.int (x.1:Nat),.int x.2])) as xs
noncomputable def dW(gs:L5)(y:nO):L3:=(if 0<y.2.2.1 then[(y.1,gs∘y.1)]else[])++(match y.2.2.2 with | some r=>[(y.1,r)] | none=>[])
noncomputable def de(gs:L5)(t:Int)(qs:List Pc):L3:=(fj gs t qs).flatMap (dW gs)
inductive g5(vs:N2)(H:Hp)(Q:VK)(xk:XK):Prop
 | mk (l s t) (bs:L7) (qs:List Pc) (gs:L5):vs=[.ref l,.ref s,.int t]->H l⊂(.lst (bs.map V.ref))->g9 H bs qs->H s⊂(.lst (gs.map V.int))->⇑qs<=8->(∀q∈qs,mT gs q)->0<=t->t<=10^62->(∀(p:Addr) (as:L7) (H':Hp),bU H H'->H p=none->H' p⊂(.lst (as.map V.ref))->fk H' as (de gs t qs)->Q (.ref p) H')->g5 vs H Q xk
noncomputable def eC(pc:Nat->List Pc)(gs:L5):Nat->Nat->Int->L3
 | 0,i,t=>[(i,t)]
 | n+1,i,t=>if gs∘i<=t\/pc i=[]then[(i,t)]else(de gs t (pc i)).flatMap λx=>eC pc gs n x.1 x.2
noncomputable def dU(pc:Nat->List Pc)(gs:L5):Nat->Nat->Int->Nat
 | 0,_,_=>1
 | n+1,i,t=>if gs∘i<=t\/pc i=[]then 1 else 1+((de gs t (pc i)).map λx=>dU pc gs n x.1 x.2).sum
noncomputable def cH(ps:N1)(gs:L5)(i:Nat):List Pc:=match ps[i]? with | some p=>cW gs p.2 (cM ps p.2) | none=>[]
section
variable{gs:L5}{t:Int}
def xW(h:q∈cK gs is b):q.1∈is/\q.2.1=1:=by
 induction is generalizing b with
 | nil=>rwa[nomatch h]
 | cons j r ih=>
  rcases mem_cons.mp h with rfl | h
  .exact#[vq,rfl]
  .let⟨a,b⟩:=ih h;rwa[vp _ a,b]
def Gp(is:L6)(b:Int):⇑(cK gs is b)=⇑is:=by
 induction is generalizing b with
 | nil=>rfl
 | cons j r ih=>rw[cK,vQ,vQ,ih]
def wx(d:∀j∈is,0<=gs∘j/\gs∘j<=10^60)(h:q∈cK gs is b):b<=q.2.2/\q.2.2<=b+10^60*⇑is:=by
 induction is generalizing b with
 | nil=>rwa[nomatch h]
 | cons j r ih=>
  have g:=d j vq;rw[vQ];rcases mem_cons.mp h with rfl | h
  .have:(0:Int)<=10^60*((⇑r+1:Nat):Int):=Int.mul_nonneg nofun ⋯;rwa[vA _,by show b<=_;lia]
  .let⟨a,c⟩:=ih (λk e=>d k (vp _ e)) h;erw[⋯,?_];rw[show((⇑r+1:Nat):Int)=(⇑r:Int)+1 by lia,Int.mul_add];lia
def kP(h:q∈cW gs f is):q.1∈is:=by
 unfold cW at h;split at h
 .split at h
  .exact nomatch h
  .rcases mem_cons.mp h with rfl | h
   .exact vq
   .split at h
    .rw[vo.mp h];rwa[vq]
    .exact nomatch h
 .exact(xW h).1
 .let⟨j,a,rfl⟩:=vK.mp h;rwa[a]
def Cn(a:⇑is<=8):⇑(cW gs f is)<=8:=by
 unfold cW;split
 .split
  .exact va _
  .split<;>simp
 .rw[Gp];rwa[a]
 simp_all
def kQ(h:y∈fj gs t qs):∃q∈qs,dE gs t q⊂y:=mem_filterMap.mp h
def Du(a:List Pc):⇑(fj gs t a)<=⇑a:=List.length_filterMap_le _ _
def Ka(h:dE gs t q⊂y):y.1=q.1:=by
 unfold dE at h;split at h
 .cases h;rfl
 .cases h
def wO(h:x∈de gs t qs):∃q∈qs,x.1=q.1:=by
 let⟨y,c,a⟩:=mem_flatMap.mp h;let⟨q,b,e⟩:=kQ c;erw[q,b,?_];rw[<-Ka e];unfold dW at a;rcases vh.mp a with z | z
 .split at z
  .rw[vo.mp z]
  .exact nomatch z
 .split at z
  .rw[vo.mp z]
  .exact nomatch z
def Ib(y:nO):⇑(dW gs y)<=2:=by
 unfold dW;rw[vn];have a:⇑(if 0<y.2.2.1 then[(y.1,gs∘y.1)]else[])<=1:=by split<;>simp
 have b:⇑(match y.2.2.2 with | some r=>[(y.1,r)] | none=>[]:L3)<=1:=by split<;>simp
 lia
def Lo(a:List Pc):⇑(de gs t a)<=2*⇑a:=by
 have h:∀b:List nO,⇑(b.flatMap (dW gs))<=2*⇑b:=λb=>by
  induction b with
  | nil=>rwa[va _]
  | cons y r ih=>
   rw[flatMap_cons,vn,vQ];have:=Ib (gs:=gs) y;lia
 have:=h (fj gs t a);have:=Du (gs:=gs) (t:=t) a;unfold de;lia
end
section
variable{ls:L4}{ps:N1}{gs:L5}
def uX(W:dX ls ps)(h:q∈cH ps gs i):q.1<i:=by
 unfold cH at h;split at h
 .rename_i p hp;rwa[W.cQ hp (kP h)]
 .exact nomatch h
def Qe(W:dX ls ps)(h:x∈de gs t (cH ps gs i)):x.1<i:=by
 let⟨q,a,e⟩:=wO h;rw[e];rwa[uX W a]
theorem JU{a c:Type}{f g:a->List c}:∀{l:List a},(∀x∈l,f x=g x)->l.flatMap f=l.flatMap g
 | [],_=>rfl
 | x::r,h=>by rw[flatMap_cons,flatMap_cons,h x vq,JU λy b=>h y (vp _ b)]
theorem WM(W:dX ls ps):∀{n m i:Nat} {t:Int},i<n->i<m->eC (cH ps gs) gs n i t=eC (cH ps gs) gs m i t
 | 0,_,_,_,h,_=>uf h (Nat.not_lt_zero _)
 | _,0,_,_,_,h=>uf h (Nat.not_lt_zero _)
 | n+1,m+1,i,t,h1,h2=>by
  unfold eC;split
  .rfl
  .exact JU λx a=>by
    have:=Qe W a;rwa[WM W ⋯ ⋯]
theorem WB(W:dX ls ps):∀{n m i:Nat} {t:Int},i<n->i<m->dU (cH ps gs) gs n i t=dU (cH ps gs) gs m i t
 | 0,_,_,_,h,_=>uf h (Nat.not_lt_zero _)
 | _,0,_,_,_,h=>uf h (Nat.not_lt_zero _)
 | n+1,m+1,i,t,h1,h2=>by
  unfold dU;split
  .rfl
  .congr 2;exact map_congr_left λx a=>by
    have:=Qe W a;rwa[WB W ⋯ ⋯]
noncomputable def reach(ps:N1)(gs:L5)(i:Nat)(t:Int):L3:=eC (cH ps gs) gs (i+1) i t
noncomputable def nodes(ps:N1)(gs:L5)(i:Nat)(t:Int):Nat:=dU (cH ps gs) gs (i+1) i t
def Jb(h:gs∘i<=t\/cH ps gs i=[]):reach ps gs i t=[(i,t)]:=by
 unfold reach eC;rw[vd h]
def JE(W:dX ls ps)(h:¬(gs∘i<=t\/cH ps gs i=[])):reach ps gs i t=(de gs t (cH ps gs i)).flatMap λx=>reach ps gs x.1 x.2:=by
 unfold reach;rw[eC,vc h];exact JU λx a=>by
  have:=Qe W a;rwa[WM W ⋯ ⋯]
def ka(h:gs∘i<=t\/cH ps gs i=[]):nodes ps gs i t=1:=by
 unfold nodes dU;rw[vd h]
def WC(W:dX ls ps)(h:¬(gs∘i<=t\/cH ps gs i=[])):nodes ps gs i t=1+((de gs t (cH ps gs i)).map λx=>nodes ps gs x.1 x.2).sum:=by
 unfold nodes;rw[dU,vc h];congr 2;exact map_congr_left λx a=>by
  have:=Qe W a;rwa[WB W ⋯ ⋯]
def Xb(i:Nat)(t:Int):1<=nodes ps gs i t:=by
 unfold nodes dU;split<;>lia
end
section
variable{gs:L5}{t:Int}
noncomputable def wq(gs:L5)(t:Int)(q:Pc):L3:=match dE gs t q with | some y=>dW gs y | none=>[]
def ZK:de gs t []=[]:=rfl
def qp(q:Pc)(a:List Pc):de gs t (q::a)=wq gs t q++de gs t a:=by
 unfold de fj wq;rw[filterMap_cons];cases dE gs t q with
 | none=>rfl
 | some y=>rfl
def DW(h:t<q.2.2):wq gs t q=[]:=by
 unfold wq dE;rw[vc ⋯]
def W0(d:1<=gs∘j)(h:b<=t):wq gs t (j,1,b)=if gs∘j<=t-b then[(j,gs∘j)]else[(j,t-b)]:=by
 have c:wq gs t (j,1,b)=dW gs (j,b,ov gs t (j,1,b),if ov gs t (j,1,b)<1 then some (t-b-ov gs t (j,1,b)*gs∘j)else none):=by
  unfold wq dE;rw[vd (show b<=t from h)]
 rw[c];generalize a:gs∘j=g at d|-;have e:ov gs t (j,1,b)=if g<=t-b then 1 else 0:=by
  show(if(1:Int)<(t-b)/gs∘j then(1:Int)else(t-b)/gs∘j)=_;rw[a];by_cases z:g<=t-b
  .rw[vd z];have:1<=(t-b)/g:=by
    rw[Int.le_ediv_iff_mul_le ⋯];lia
   split<;>lia
  .rw[vc z];have:(t-b)/g=0:=Int.ediv_eq_zero_of_lt ⋯ ⋯;rw[this];rfl
 by_cases z:g<=t-b
 .rw[vd z]at e;rw[vd z,e];unfold dW
  simp_all
 .rw[vc z]at e;rw[vc z,e];unfold dW;simp
def AB(h:q.2.2<=t):wq gs t q=(if 0<ov gs t q then[(q.1,gs∘q.1)]else[])++(if ov gs t q<q.2.1 then[(q.1,t-q.2.2-ov gs t q*gs∘q.1)]else[]):=by
 unfold wq dE;rw[vd h];show dW gs _=_;unfold dW;congr 1;show(match(if ov gs t q<q.2.1 then some (t-q.2.2-ov gs t q*gs∘q.1)else none)with | some r=>[(q.1,r)] | none=>[])=_;split<;>rename_i e<;>split at e
 .cases e;rw[vd (by assumption)]
 .cases e
 .cases e
 .rw[vc (by assumption)]
theorem Kj:∀{qs:List Pc},(∀q∈qs,t<q.2.2)->de gs t qs=[]
 | [],_=>rfl
 | q::r,h=>by rw[qp,DW (h q vq),Kj λq a=>h q (vp _ a)];rfl
def WO(a:∀j∈is,0<=gs∘j/\gs∘j<=10^60)(h:t<b):de gs t (cK gs is b)=[]:=
 Kj λq c=>by have:=(wx a c).1;lia
def Ke(a:∀k∈j::r,1<=gs∘k/\gs∘k<=10^60)(h:b<=t):de gs t (cK gs (j::r) b)=if gs∘j<=t-b then(j,gs∘j)::de gs t (cK gs r (b+gs∘j))else[(j,t-b)]:=by
 have g:=a j vq;rw[cK,qp,W0 g.1 h];split
 .rfl
 .rw[WO (λk c=>by have:=a k (vp _ c);lia) ⋯];rfl
theorem EC{a:Type}{f g:a->Nat}:∀{l:List a},(∀x∈l,f x<=g x)->(l.map f).sum<=(l.map g).sum
 | [],_=>vb _
 | x::r,h=>by
  rw[v9,v9,uz,uz];have:=h x vq;have:=EC (l:=r) λy b=>h y (vp _ b)
  lia
theorem DM{N:Nat×Int->Nat}:∀{is:L6} {b:Int},(∀k∈is,1<=gs∘k/\gs∘k<=10^60)->(∀k∈is,N (k,gs∘k)=1)->(∀k∈is,∀r,0<=r->N (k,r)<=B)->((de gs t (cK gs is b)).map N).sum<=⇑is+B
 | [],b,_,_,_=>va _
 | j::r,b,hg,h1,h2=>by
  by_cases h:b<=t
  .rw[Ke hg h];split
   .rw[v9,uz,h1 j vq,vQ];have:=DM (N:=N) (B:=B) (is:=r) (b:=b+gs∘j) (λk a=>hg k (vp _ a)) (λk a=>h1 k (vp _ a)) λk a=>h2 k (vp _ a)
    lia
   .have:=h2 j vq (t-b) ⋯;simp;lia
  .rw[WO (λk a=>by have:=hg k a;lia) ⋯];rwa[va _]
def Kh{is:L6}(a:∀k∈is,1<=gs∘k)(c:0<=t):de gs t (is.map λj=>(j,1,0))=is.map λj=>if gs∘j<=t then(j,gs∘j)else(j,t):=by
 induction is with
 | nil=>rfl
 | cons j r ih=>
  rw[v9,qp,W0 (a j vq) c,ih λk b=>a k (vp _ b),v9,Int.sub_zero];split<;>rfl
def GG{N:Nat×Int->Nat}(l:1<=gs∘j)(f:0<=t)(b:N (j,gs∘j)=1)(d:∀r,0<=r->N (j,r)<=B) :
  ((de gs t ((j,1,0)::(if 1<k then[(j,k-1,gs∘j)]else[]))).map N).sum<=2+B:=by
 rw[qp,W0 l f,Int.sub_zero,vj,sum_append];by_cases z:gs∘j<=t
 .rw[vd z];have a:((de gs t (if 1<k then[(j,k-1,gs∘j)]else[])).map N).sum<=1+B:=by
   split
   .rw[qp,ZK,append_nil,AB (show gs∘j<=t from z),vj,sum_append];have g:(((if 0<ov gs t (j,k-1,gs∘j)then[(j,gs∘j)]else[]):L3).map N).sum<=1:=by
     split
     .simp;rw[<-vy,b];rwa[vb _]
     .simp
    have h:(((if ov gs t (j,k-1,gs∘j)<k-1 then[(j,t-gs∘j-ov gs t (j,k-1,gs∘j)*gs∘j)]else[]):L3).map N).sum<=B:=by
     split
     .have m:ov gs t (j,k-1,gs∘j)=(t-gs∘j)/gs∘j:=by
       show(if k-1<(t-gs∘j)/gs∘j then k-1 else(t-gs∘j)/gs∘j)=_;rename_i c;have i:(if k-1<(t-gs∘j)/gs∘j then k-1 else(t-gs∘j)/gs∘j)<k-1:=c;split at i
       .lia
       .rename_i z;rw[vc z]
      have:=d (t-gs∘j-ov gs t (j,k-1,gs∘j)*gs∘j) (by
       rw[m];have:=Int.ediv_mul_le (t-gs∘j) (show gs∘j≠0 by lia);lia)
      simp;rwa[this]
     .simp
    have o:((if 0<ov gs t (j,k-1,gs∘j)then[((j,k-1,gs∘j):Pc).1].map λa=>(a,gs∘a)else[]):L3)=if 0<ov gs t (j,k-1,gs∘j)then[(j,gs∘j)]else[]:=rfl
    rwa[Nat.add_le_add g h]
   .exact va _
  have:(([(j,gs∘j)]:L3).map N).sum=1:=by
   simp;rw[<-vy,b]
  lia
 .rw[vc z];have e:de gs t (if 1<k then[(j,k-1,gs∘j)]else[])=[]:=by
   split
   .exact Kj λq n=>by rw[vo.mp n];show t<gs∘j;lia
   .rfl
  rw[e];have:=d t f;simp;lia
end
def len_sub{a b:L5}(c:a.Nodup)(f:∀x∈a,x∈b):⇑a<=⇑b:=by
 induction a generalizing b with
 | nil=>rwa[va _]
 | cons x r ih=>
  rw[uo]at c;have g:=f x vq;have:=ih (b:=b.erase x) c.2 λy h=>by
   have d:y≠x:=λe=>c.1 (e▸h)
   rwa[(List.mem_erase_of_ne d).mpr (f y (vp _ h))]
  rw[List.length_erase_of_mem g]at this;have:0<⇑b:=List.length_pos_of_mem g;rw[vQ];lia
section
variable{ls:L4}{ps:N1}{gs:L5}{hs:L1}
def wp(S:oG ls ps gs hs)(a:⇑hs=⇑ps)(hi:i<⇑ps):hs[i]?⊂(hs.getD i []):=by
 simp_all
def Nj(S:oG ls ps gs hs)(e:⇑hs=⇑ps)(M:dJ ls ps hs){i:Nat}{p:Str×Fm}(c:ps[i]?⊂p){j:Nat}(d:j∈cM ps p.2):⇑(hs.getD j [])<=⇑(hs.getD i []):=by
 have f:=(vx.mp c).1;have l:=S.w.cQ c d;let⟨q,b⟩:=M i p _ c (wp S e f);let⟨a,q⟩:=M j _ _ (vz (show j<⇑ps by lia)) (wp S e ⋯);rwa[len_sub (a.imp λh=>⋯) λk g=>(b k).mpr (.inl #[j,d,g])]
def Kv(S:oG ls ps gs hs)(v:⇑hs=⇑ps)(M:dJ ls ps hs){i:Nat}{p:Str×Fm}{x:L8}(f:ps[i]?⊂p)(e:p.2 = .side x):((cM ps p.2).map λj=>⇑(hs.getD j [])).sum<=⇑(hs.getD i []):=by
 have A:=(vx.mp f).1;let⟨Z,t⟩:=S.sd i p x f e;let⟨Z,b⟩:=M i p _ f (wp S v A);have C:=λj=>S.w.cQ (j:=j) f
 have D:∀d:L6,(∀j∈d,j<⇑ps)->(∀k:Int,⇑((d.map λj=>hs.getD j []).filter λs=>decide (k∈s))<=1)->(d.flatMap λj=>hs.getD j []).Nodup:=λd=>by
  induction d with
  | nil=>rwa[λZ Z=>.nil]
  | cons j r ih=>
   intro l u;rw[flatMap_cons];have E:(hs.getD j []).Nodup:=by
    let⟨a,Z⟩:=M j _ _ (vz (l j vq)) (wp S v (l j vq));rwa[a.imp λh=>⋯]
   erw[nodup_append.mpr #[E,ih (λk c=>l k (vp _ c)) λk=>?_,λa y b z g=>?_]]
   .have:=u k;rw[v9,v8]at this;split at this
    .rw[vQ]at this;lia
    .exact this
   .subst g;let⟨B,o,q⟩:=mem_flatMap.mp z;have:=u a;rw[v9,v8,vd (vG y),vQ]at this;have F:0<⇑((r.map λj=>hs.getD j []).filter λs=>decide (a∈s)):=List.length_pos_of_mem (vP.mpr #[vK.mpr #[B,o,rfl],vG q]);lia
 have n:=D (cM ps p.2) (λj m=>by have:=C j m;lia) t;have w:=len_sub (b:=hs.getD i []) n λk c=>by
  let⟨j,m,c⟩:=mem_flatMap.mp c;rwa[(b k).mpr (.inl #[j,m,c])]
 rw[List.length_flatMap]at w;rwa[w]
theorem DQ{a:Type}{f:a->Nat}:∀{l:List a},(l.map λx=>c*f x).sum=c*(l.map f).sum
 | []=>rfl
 | x::r=>by rw[v9,v9,uz,uz,DQ,Nat.mul_add]
def Im(S:oG ls ps gs hs)(z:⇑hs=⇑ps)(M:dJ ls ps hs)(F:∀i,i<⇑ps->1<=gs∘i):∀i t,i<⇑ps->0<=t->nodes ps gs i t<=9*(i+1)*max 1 ⇑(hs.getD i []):=by
 intro i
 induction i using Nat.strongRecOn with
 | ind i ih=>
  intro t G y;have W:=S.w;have B:1<=max 1 ⇑(hs.getD i []):=Nat.le_max_left _ _;by_cases a:gs∘i<=t\/cH ps gs i=[]
  .rw[ka a];have:1*1<=9*(i+1)*max 1 ⇑(hs.getD i []):=Nat.mul_le_mul ⋯ B;lia
  rw[WC W a];obtain⟨p,o⟩:∃p,ps[i]?⊂p:=#[_,vz G]
  have c:cH ps gs i=cW gs p.2 (cM ps p.2):=by unfold cH;rw[o]
  have q:=λj=>W.cQ (j:=j) o
  have h:∀k∈cM ps p.2,1<=gs∘k/\gs∘k<=10^60:=λk m=>by
   have:=q k m;rwa[F k ⋯,(S.gb k ⋯).2]
  have H:⇑(cM ps p.2)<=8:=by unfold cM;rw[vt];rwa[(W.f i p o).2]
  have b:∀k∈cM ps p.2,nodes ps gs k (gs∘k)=1:=λk Z=>ka (.inl (vA _))
  have hB:∀k∈cM ps p.2,∀r,0<=r->nodes ps gs k r<=9*i*max 1 ⇑(hs.getD i []):=λk m r w=>by
   have l:=q k m;have:=ih k l r ⋯ w;have s:=Nj S z M o m;erw[vW this (Nat.mul_le_mul ⋯ ?_)];rwa[Nat.max_le.mpr #[Nat.le_max_left _ _,vW s (Nat.le_max_right _ _)]]
  have f:∀X:Nat,X<=8+9*i*max 1 ⇑(hs.getD i [])->1+X<=9*(i+1)*max 1 ⇑(hs.getD i []):=λX J=>by
   rw[Nat.mul_add,Nat.add_mul];have:9*1*1<=9*1*max 1 ⇑(hs.getD i []):=Nat.mul_le_mul (vb _) B;lia
  rw[c];cases e:p.2 with
  | again k x=>
   have d:cM ps p.2=[cu (bQ ps) x]:=by rw[e];rfl
   rw[e]at d;rw[d];have g:cu (bQ ps) x∈cM ps p.2:=by rw[e,d];rwa[vq]
   erw[f _ (vW (GG (N:=λx=>nodes ps gs x.1 x.2) (h _ g).1 y (b _ g) (hB _ g)) ⋯)]
  | row xs=>
   rw[e]at h b hB H;rwa[f _ (vW (DM (N:=λx=>nodes ps gs x.1 x.2) h b hB) ⋯)]
  | side xs=>
   have E:=Kv S z M o e;let⟨D,Z⟩:=S.sd i p xs o e;rw[show cW gs (.side xs) (cM ps (.side xs))=(cM ps (.side xs)).map λj=>(j,1,0)from rfl];rw[e]at h b E D q;rw[Kh (λk m=>(h k m).1) y,v6];have A:((cM ps (.side xs)).map (Function.comp (λx=>nodes ps gs x.1 x.2) λj=>if gs∘j<=t then(j,gs∘j)else(j,t))).sum<=((cM ps (.side xs)).map λj=>9*i*⇑(hs.getD j [])).sum:=by
    erw[EC λj u=>?_]
    have l:=q j u;have I:1<=⇑(hs.getD j []):=length_pos_iff.mpr (D j u);have C:∀r,0<=r->nodes ps gs j r<=9*i*⇑(hs.getD j []):=λr w=>by
     have:=ih j l r ⋯ w;rw[Nat.max_eq_right I]at this;rwa[vW this (Nat.mul_le_mul ⋯ (vb _))]
    show nodes ps gs (if gs∘j<=t then(j,gs∘j)else(j,t)).1 (if gs∘j<=t then(j,gs∘j)else(j,t)).2<=_;split
    .exact C _ (by have:=h j u;lia)
    .exact C _ y
   rw[DQ]at A;erw[f _ (vW A (vW (Nat.mul_le_mul (vb (9*i)) (vW E (Nat.le_max_right 1 _))) (Nat.le_add_left _ _)))]
  | hold n=>
   rwa[uf (.inr (by rw[c,e];rfl)) a]
  | ring x n=>
   rwa[uf (.inr (by rw[c,e];rfl)) a]
  | rise x v n=>
   rwa[uf (.inr (by rw[c,e];rfl)) a]
end
structure Sn(ls:L4)(ps:N1)(gs:L5)(hs:L1):Prop where
 s:oG ls ps gs hs
 hl:⇑hs=⇑ps
 m:dJ ls ps hs
 g1:∀i,i<⇑ps->1<=gs∘i
 ne:1<=⇑ps
 vX:∀q∈ls,0<=q.2/\q.2<=10^18
 BI:∀(i:Nat) (y x:Str) (v n:Int),ps[i]?⊂(y,.rise x v n)->0<=v/\v<=10^18/\1<=n/\n<=10^18
 BX:∀(i:Nat) (y x:Str) (k:Int),ps[i]?⊂(y,.again k x)->1<=k/\k<=10^18
section
variable{ls:L4}{ps:N1}{gs:L5}{hs:L1}
def Sn.g(N:Sn ls ps gs hs)(hi:i<⇑ps):1<=gs∘i/\gs∘i<=10^60:=#[N.g1 i hi,(N.s.gb i hi).2]
def Sn.Bv(N:Sn ls ps gs hs){i:Nat}(hi:i<⇑ps):gs[i]?⊂(gs∘i):=by
 rw[vy,vz (by rw[N.s.gl];rwa[hi])];rfl
def Sn.i8(N:Sn ls ps gs hs){i:Nat}{p:Str×Fm}(a:ps[i]?⊂p):⇑(cM ps p.2)<=8:=by
 unfold cM;rw[vt];rwa[(N.s.w.f i p a).2]
def Sn.m9(N:Sn ls ps gs hs){i:Nat}{q:Pc}(h:q∈cH ps gs i):mT gs q:=by
 have u:=uX N.s.w h;have n:=h;unfold cH at h;split at h
 case h_2=>rwa[nomatch h]
 rename_i p hp;have o:=(vx.mp hp).1;have g:=N.g (show q.1<⇑ps by lia);have t:=N.i8 hp;have a:∀k∈cM ps p.2,0<=gs∘k/\gs∘k<=10^60:=λk d=>by
  have:=N.s.w.cQ hp d;have:=N.g (show k<⇑ps by lia);lia
 erw[by rw[N.s.gl];lia,g.1,g.2,?_];unfold cW at h;split at h
 .rename_i k x e;have f:=N.BX i p.1 x k (by rw[hp,<-e]);split at h
  .exact nomatch h
  .rename_i j r ein;have c:=a j (by rw[ein];rwa[vq]);rcases mem_cons.mp h with rfl | h
   .exact#[(by show(1:Int)<=1;decide),(by show(1:Int)<=10^18;decide),(by show(0:Int)<=0;decide),(by show(0:Int)<=10^62;decide)]
   .split at h
    .rw[vo.mp h];refine#[?_,?_,c.1,?_]
     .show 1<=k-1;lia
     .show k-1<=_;lia
     .show gs∘j<=_;lia
    .exact nomatch h
 .let⟨b,l⟩:=wx a h;have m:=(xW h).2;erw[⋯,⋯,b,?_];have:(10:Int)^60*(⇑(cM ps p.2):Int)<=10^60*8:=Int.mul_le_mul_of_nonneg_left ⋯ nofun;lia
 .let⟨j,s,rfl⟩:=vK.mp h;rwa[(by show(1:Int)<=1;decide),(by show(1:Int)<=10^18;decide),(by show(0:Int)<=0;decide),(by show(0:Int)<=10^62;decide)]
def Eb(c:mT gs q)(h:q.2.2<=t):0<=ov gs t q/\ov gs t q<=q.2.1/\ov gs t q*gs∘q.1<=t-q.2.2/\0<=ov gs t q*gs∘q.1:=by
 let⟨j,e,j,f,j,j⟩:=c;have d:0<=(t-q.2.2)/gs∘q.1:=Int.ediv_nonneg ⋯ ⋯;have b:=Int.ediv_mul_le (t-q.2.2) (show gs∘q.1≠0 by lia);have a:0<=ov gs t q/\ov gs t q<=q.2.1/\ov gs t q<=(t-q.2.2)/gs∘q.1:=by
  unfold ov;split<;>lia
 erw[a.1,a.2.1,?_,Int.mul_nonneg a.1 ⋯];rwa[Int.le_trans (Int.mul_le_mul_of_nonneg_right a.2.2 ⋯) b]
def km(j:∀q∈qs,mT gs q)(h:x∈de gs t qs):0<=x.2:=by
 let⟨y,i,d⟩:=mem_flatMap.mp h;let⟨q,g,e⟩:=kQ i;have o:=j q g;by_cases c:q.2.2<=t
 case neg=>unfold dE at e;rw[vc c]at e;cases e
 have b:=Eb o c;unfold dE at e;rw[vd c]at e;have f:=vL e;subst f;unfold dW at d;rcases vh.mp d with z | z
 .have z:x∈(if 0<ov gs t q then[(q.1,gs∘q.1)]else[]):=z;split at z
  .rw[vo.mp z];rwa[Int.le_trans nofun o.2.1]
  .exact nomatch z
 .split at z
  .rename_i r a;rw[vo.mp z];have a:(if ov gs t q<q.2.1 then some (t-q.2.2-ov gs t q*gs∘q.1)else none)⊂r:=a;split at a
   .cases a;show 0<=t-q.2.2-ov gs t q*gs∘q.1;lia
   .cases a
  .exact nomatch z
def Sn.nodes(N:Sn ls ps gs hs)(a:∀i,i<⇑ps->⇑(hs.getD i [])<=8)(hi:i<⇑ps)(b:0<=t):Rm.nodes ps gs i t<=5000:=by
 have:=Im N.s N.hl N.m N.g1 i t hi b;have c:=N.s.w.nF;have d:=a i hi;have:9*(i+1)*max 1 ⇑(hs.getD i [])<=9*61*8:=Nat.mul_le_mul ⋯ ⋯;lia
end
noncomputable def fQ(ls:L4)(ps:N1)(gs:L5)(E:L0)(h:L5)(x:Nat×Int):L5:=
 if gs∘x.1<=x.2 then(E.getD x.1 []).foldl (λh q=>h.set q.1.toNat q.2) h
 else match ps[x.1]? with
  | some (_,.rise y v n)=>h.set (cu (bQ ls) y) (Rp.ramp (h∘(cu (bQ ls) y)) v n x.2)
  | _=>h
noncomputable def cJ(ls:L4)(ps:N1)(gs:L5)(E:L0)(t:Int):L5:=(reach ps gs (⇑ps-1) t).foldl (fQ ls ps gs E) (ls.map (·.2))
noncomputable def cO(ps:N1)(x:Nat×Int):L8:=match ps[x.1]? with
 | some (_,.ring y _)=>if x.2=0 then[y]else[]
 | _=>[]
noncomputable def cP(ps:N1)(gs:L5)(t:Int):L8:=(reach ps gs (⇑ps-1) t).flatMap (cO ps)
def bX.app{d:Type}{R:Addr->d->Prop}{as bs:L7}{xs ys:List d}(h:bX R as xs)(k:bX R bs ys):bX R (as++bs) (xs++ys):=by
 have f:=h.1;erw[by rw[vn,vn,h.1,k.1],λi a x b c=>?_];by_cases e:i<⇑as
 .rw[vB e]at b;rw[vB ⋯]at c;rwa[h.2 i a x b c]
 .rw[vC ⋯]at b;rw[vC ⋯]at c;rwa[k.2 _ a x b (by rw[f];rwa[c])]
def bX.cons{b:Type}{R:Addr->b->Prop}{a:Addr}{as:L7}{x:b}{xs:List b}(h:R a x)(k:bX R as xs):bX R (a::as) (x::xs):=bX.app (as:=[a]) (xs:=[x]) (bX.snoc (as:=[]) (xs:=[]) .nil h) k
theorem bX.rev{b:Type}{R:Addr->b->Prop}:∀{as:L7} {xs:List b},bX R as xs->bX R as.reverse xs.reverse
 | [],[],_=>.nil
 | [],_::_,h=>uf h.1 (by simp)
 | _::_,[],h=>uf h.1 (by simp)
 | a::as,x::xs,h=>by
  rw[reverse_cons,reverse_cons];rwa[bX.app (bX.rev (bX.tail h).2) (bX.snoc (as:=[]) (xs:=[]) .nil (bX.tail h).1)]
def bX.last{e:Type}{R:Addr->e->Prop}{as:L7}{xs:List e}{x:e}(h:bX R as (xs++[x])):∃c a,as=c++[a]/\bX R c xs/\R a x:=by
 rcases List.eq_nil_or_concat as with rfl | ⟨c,a,rfl⟩
 .have:=h.1;simp at this
 .rw[List.concat_eq_append]at h|-;have g:=h.1;rw[vn,vn]at g;have d:⇑c=⇑xs:=by simpa using g
  erw[c,a,rfl,#[d,λi b y f j=>?_],?_]
  .have k:=(vx.mp f).1;rwa[h.2 i b y (by rw[vB k];rwa[f]) (by rw[vB ⋯];rwa[j])]
  .exact h.2 ⇑c a x (by simp) (by rw[d];simp)
def C4{gs:L5}{n:Nat}(h:1<=n)(e:⇑gs=n):eZ (gs.map V.int) (-1)⊂(.int (gs∘(n-1))):=by
 have i:lS n (-1)⊂(n-1):=by
  unfold lS;simp;lia
 unfold eZ;rw[vt,e,i];show(gs.map V.int)[n-1]?=_;rw[vv,vy,vz ⋯];rfl
section
variable{ls:L4}{ps:N1}{gs:L5}{hs:L1}
def Kc(W:dX ls ps):∀{i:Nat} {t:Int} {x:Nat×Int},i<⇑ps->x∈reach ps gs i t->x.1<⇑ps:=by
 intro i
 induction i using Nat.strongRecOn with
 | ind i ih=>
  intro t x b a;by_cases h:gs∘i<=t\/cH ps gs i=[]
  .rw[Jb h]at a;rw[vo.mp a];rwa[b]
  .rw[JE W h]at a;let⟨y,c,a⟩:=mem_flatMap.mp a;have:=Qe W c;rwa[ih y.1 this ⋯ a]
def G9(N:Sn ls ps gs hs):∀{i:Nat} {t:Int} {x:Nat×Int},i<⇑ps->0<=t->x∈reach ps gs i t->0<=x.2:=by
 intro i
 induction i using Nat.strongRecOn with
 | ind i ih=>
  intro t x d e a;by_cases h:gs∘i<=t\/cH ps gs i=[]
  .rw[Jb h]at a
   simp_all
  .rw[JE N.s.w h]at a;let⟨y,b,a⟩:=mem_flatMap.mp a;have:=Qe N.s.w b;rwa[ih y.1 this ⋯ (km (λq c=>N.m9 c) b) a]
def Mx(N:Sn ls ps gs hs)(m:⇑E=⇑ps)(k:c9 ls ps E):∀{i:Nat},i<⇑ps->∀q∈E.getD i [],0<=q.2/\q.2<=10^18:=by
 intro i
 induction i using Nat.strongRecOn with
 | ind i ih=>
  intro f q h;have d:E[i]?⊂(E.getD i []):=by simp_all
  obtain⟨p,a⟩:∃p,ps[i]?⊂p:=#[_,vz f]
  rcases((k i p _ a d).2 q.1 q.2).mp h with⟨l,j,b,e,c,_⟩ | ⟨x,n,e,_⟩
  .have g:j∈cM ps p.2:=by rw[e];simp
   have:=N.s.w.cQ a g;rwa[ih j this ⋯ _ c]
  .have:=N.BI i p.1 x q.2 n (by rw[a,<-e]);lia
def Av(i:0<=h/\h<=10^18)(l:0<=v/\v<=10^18)(k:1<=n)(d:0<=j)(e:j<=n):0<=Rp.ramp h v n j/\Rp.ramp h v n j<=10^18:=by
 unfold Rp.ramp;by_cases c:h<=v
 .have a:0<=(v-h)*j:=Int.mul_nonneg ⋯ d;have b:(v-h)*j<=(v-h)*n:=Int.mul_le_mul_of_nonneg_left e ⋯;have f:0<=(v-h)*j/n:=Int.ediv_nonneg a ⋯;have g:(v-h)*j/n<=v-h:=by
   have:=Int.ediv_le_ediv (show 0<n by lia) b;rw[Int.mul_ediv_cancel _ (show n≠0 by lia)]at this;rwa[this]
  lia
 .have a:(v-h)*j<=0:=Int.mul_nonpos_of_nonpos_of_nonneg ⋯ d;have b:(v-h)*n<=(v-h)*j:=Int.mul_le_mul_of_nonpos_left ⋯ e;have f:(v-h)*j/n<=0:=by
   have:=Int.ediv_le_ediv (show 0<n by lia) a
   simp_all
  have g:v-h<=(v-h)*j/n:=by
   have:=Int.ediv_le_ediv (show 0<n by lia) b;rw[Int.mul_ediv_cancel _ (show n≠0 by lia)]at this;rwa[this]
  lia
end
inductive Fn where
 | hold (n:Int) | ring (x:Str) (n:Int) | rise (x:Str) (h n:Int) | row (is:L6) | side (is:L6) | again (k:Int) (j:Nat)
noncomputable def Fn.js:Fn->L6
 | .row is=>is
 | .side is=>is
 | .again _ j=>[j]
 | _=>[]
def Ex(p:Addr)(H H':Hp):Prop:=∀c u,c≠p->H c⊂u->H' c⊂u
def Ex.refl(H:Hp):Ex p H H:=λq q q h=>h
def Ex.trans{d e f:Hp}(a:Ex p d e)(b:Ex p e f):Ex p d f:=λc u n h=>b c u n (a c u n h)
def Ex.of{H H':Hp}(s:bU H H'):Ex p H H':=λc u q h=>s c u h
noncomputable def fN(gs:L5):Fn->Int->Prop
 | .hold n,g=>g=n
 | .ring _ n,g=>g=n
 | .rise _ _ n,g=>g=n
 | .row is,g=>g=(is.map λj=>gs∘j).sum
 | .side is,g=>(∃j∈is,g=gs∘j)/\∀j∈is,gs∘j<=g
 | .again k j,g=>g=k*gs∘j
def kb(L:L8)(M:L1)(f:Fn)(ks:L5):Prop:=ks.Pairwise (· < ·)/\∀k,k∈ks↔(∃j∈f.js,k∈M.getD j [])\/∃(x:Str) (h n:Int) (i:Nat),f = .rise x h n/\L[i]?⊂x/\k=(i:Int)
def nG(M:L1)(is:L6):Prop:=(∀j∈is,M.getD j []≠[])/\is.Pairwise λa b=>∀k∈M.getD a [],¬k∈M.getD b []
noncomputable def dS(L:L8)(M:L1)(n:Nat):Fn->Prop
 | .hold m=>1<=m/\m<=10^18
 | .ring x m=>1<=m/\m<=10^18/\Ws.fR x=true
 | .rise x h m=>(∃i:Nat,L[i]?⊂x)/\0<=h/\h<=10^18/\1<=m/\m<=10^18
 | .row is=>is≠[]/\⇑is<=8/\∀j∈is,j<n
 | .side is=>2<=⇑is/\⇑is<=8/\(∀j∈is,j<n)/\nG M is
 | .again k j=>1<=k/\k<=10^18/\j<n
def dS.js(h:dS L M n f):⇑f.js<=8/\∀j∈f.js,j<n:=by
 cases f with
 | row is=>rwa[h.2]
 | side is=>rwa[h.2.1,h.2.2.1]
 | again k j=>rwa[by show 1<=8;lia,λi a=>by rw[vo.mp a];rwa[h.2.2]]
 | hold n=>rwa[va _,λj h=>nomatch h]
 | ring x n=>rwa[va _,λj h=>nomatch h]
 | rise x v n=>rwa[va _,λj h=>nomatch h]
structure dO(L:L8)(fs:List Fn)(M:L1)(gs:L5):Prop where
 ml:⇑M=⇑fs
 gl:⇑gs=⇑fs
 f:∀(i:Nat) (f:Fn),fs[i]?⊂f->dS L M i f/\kb L M f (M.getD i [])/\fN gs f (gs∘i)
 g:∀i,i<⇑fs->1<=gs∘i/\gs∘i<=10^60
noncomputable def cL(names:L8):Fn->Fm
 | .hold n=>.hold n
 | .ring x n=>.ring x n
 | .rise x h n=>.rise x h n
 | .row is=>.row (is.map λj=>names.getD j ⟨#[]⟩)
 | .side is=>.side (is.map λj=>names.getD j ⟨#[]⟩)
 | .again k j=>.again k (names.getD j ⟨#[]⟩)
def QH{a:Type}{xs:List a}{x d:a}{j:Nat}(h:j<⇑xs):(xs++[x]).getD j d=xs.getD j d:=by
 rw[vy,vy,vB h]
def Zb{a:Type}{xs:List a}{x d:a}:(xs++[x]).getD ⇑xs d=x:=by
 rw[vy,vC (vb _),ur];rfl
def dS.ext{L:L8}{M:L1}{ks:L5}{n:Nat}{f:Fn}(q:n<=⇑M)(h:dS L M n f):dS L (M++[ks]) n f:=by
 cases f with
 | side is=>
  let⟨a,b,c,d,e⟩:=h;have g:∀j∈is,(M++[ks]).getD j []=M.getD j []:=λj i=>QH (by have:=c j i;lia)
  erw[a,b,c,λj i=>by rw[g j i];rwa[d j i],?_];exact(List.pairwise_iff_forall_sublist.mpr λ{x y} l=>by
   have o:x∈is:=l.subset vq;have p:y∈is:=l.subset (vp _ vq);rw[g x o,g y p];rwa[List.pairwise_iff_forall_sublist.mp e l])
 | hold m=>rwa[h]
 | ring x m=>rwa[h]
 | rise x v m=>rwa[h]
 | row is=>rwa[h]
 | again k j=>rwa[h]
def kb.ext{L:L8}{M:L1}{ks d:L5}{f:Fn}(c:∀j∈f.js,j<⇑M)(h:kb L M f d):kb L (M++[ks]) f d:=by
 erw[h.1,λk=>(h.2 k).trans ?_];have:(∃j∈f.js,k∈M.getD j [])↔∃j∈f.js,k∈(M++[ks]).getD j []:=by
  constructor
  .rintro⟨j,a,b⟩;rwa[j,a,by rw[QH (c j a)];rwa[b]]
  .rintro⟨j,a,b⟩;rwa[j,a,by rw[QH (c j a)]at b;rwa[b]]
 rw[this]
def fN.ext{gs:L5}{g' g:Int}{f:Fn}(n:∀j∈f.js,j<⇑gs)(h:fN gs f g):fN (gs++[g']) f g:=by
 have e:∀j∈f.js,(gs++[g']).getD j 0=gs∘j:=λj a=>QH (n j a)
 cases f with
 | hold m=>rwa[h]
 | ring x m=>rwa[h]
 | rise x v m=>rwa[h]
 | row is=>
  show g=(is.map λj=>(gs++[g']).getD j 0).sum;have d:is.map (λj=>(gs++[g']).getD j 0)=is.map λj=>gs∘j:=map_congr_left e
  rw[d];rwa[h]
 | side is=>
  let⟨⟨j,a,i⟩,l⟩:=h;rwa[#[j,a,by rw[e j a];rwa[i]],λc b=>by rw[e c b];rwa[l c b]]
 | again k j=>
  show g=k*(gs++[g']).getD j 0;rw[e j vq];rwa[h]
def dO.Ai(D:dO L fs M gs):∀i,i<⇑fs->∀k∈M.getD i [],0<=k/\k<(⇑L:Int):=by
 intro i
 induction i using Nat.strongRecOn with
 | ind i ih=>
  intro e k f;let⟨a,b,q⟩:=D.f i _ (vz e);rcases(b.2 k).mp f with⟨j,c,d⟩ | ⟨x,h,n,j,_,c,rfl⟩
  .have:=a.js.2 j c;rwa[ih j this ⋯ k d]
  .have:=(vx.mp c).1;lia
noncomputable def bS(names:L8)(fs:List Fn):N1:=(List.range ⇑fs).map λi=>(names.getD i ⟨#[]⟩,cL names (fs.getD i (.hold 0)))
section
variable{L:L8}{fs:List Fn}{M:L1}{gs:L5}{names:L8}{ls:L4}
def j3:⇑(bS names fs)=⇑fs:=by unfold bS;rw[vt,length_range]
def J1(h:fs[i]?⊂f):(bS names fs)[i]?⊂(names.getD i ⟨#[]⟩,cL names f):=by
 unfold bS;have a:=(vx.mp h).1;rw[vv,List.getElem?_range a];have e:fs.getD i (.hold 0)=f:=by rw[vy,h];rfl
 show some (names.getD i ⟨#[]⟩,cL names (fs.getD i (.hold 0)))=_;rw[e]
def qX(h:(bS names fs)[i]?⊂p):∃f,fs[i]?⊂f/\p=(names.getD i ⟨#[]⟩,cL names f):=by
 have b:=(vx.mp h).1;rw[j3]at b;obtain⟨f,a⟩:∃f,fs[i]?⊂f:=#[_,vz b]
 rw[J1 a]at h;rwa[f,a,(vL h).symm]
def xG(c:⇑fs<=⇑names):bQ (bS names fs)=names.take ⇑fs:=by
 unfold bQ bS;rw[v6];erw[ext_getElem (by rw[vt,length_range,vi];lia) λi a b=>?_]
 rw[getElem_map,getElem_range,getElem_take];show names.getD i ⟨#[]⟩=_;rw[vy,vz];rfl
def EK(b:⇑fs<=⇑names)(a:j<⇑fs):(bQ (bS names fs))[j]?⊂(names.getD j ⟨#[]⟩):=by
 rw[xG b,List.getElem?_take,vd a,vy,vz ⋯];rfl
def B8(a:⇑fs<=⇑names)(b:names.Nodup):(bQ (bS names fs)).Nodup:=by
 rw[xG a];rwa[b.sublist (take_sublist _ _)]
def zm(c:⇑fs<=⇑names)(d:names.Nodup)(b:∀j∈f.js,j<⇑fs):cM (bS names fs) (cL names f)=f.js:=by
 have e:∀a:L6,(∀j∈a,j<⇑fs)->(a.map λj=>names.getD j ⟨#[]⟩).map (cu (bQ (bS names fs)))=a:=λa h=>by
  rw[v6]
  conv=>rhs;rw[<-map_id a]
  rwa[map_congr_left λj b=>jV (B8 c d) (EK c (h j b))]
 unfold cM;cases f with
 | row a=>rwa[e a b]
 | side a=>rwa[e a b]
 | again k j=>rwa[e [j] b]
 | hold n=>rfl
 | ring x n=>rfl
 | rise x v n=>rfl
def C0(f:Fn):(cL names f).ns=f.js.map λj=>names.getD j ⟨#[]⟩:=by cases f<;>rfl
def dO.wf(D:dO (bQ ls) fs M gs)(m:⇑fs<=⇑names)(t:names.Nodup)(l:(bQ ls).Nodup)(s:⇑ls<=8)(d:⇑fs<=61):dX ls (bS names fs):=by
 erw[l,s,B8 m t,by rw[j3];rwa[d],λi p g=>?_,λi y x h n g=>?_]
 .let⟨f,c,rfl⟩:=qX g;have u:=(vx.mp c).1;let⟨a,Z⟩:=D.f i f c;have q:=a.js;refine#[λx o=>?_,?_]
  .rw[C0]at o;let⟨j,r,rfl⟩:=vK.mp o;have:=q.2 j r;rwa[j,this,EK m ⋯]
  .rw[C0,vt];rwa[q.1]
 .let⟨f,c,e⟩:=qX g;let⟨a,Z⟩:=D.f i f c;have b:=(Prod.mk.inj e).2;cases f with
  | rise x' h' n'=>
   have:x=x':=by injection b
   subst this;rwa[a.1]
  | hold n=>cases b
  | ring x n=>cases b
  | row is=>cases b
  | side is=>cases b
  | again k j=>cases b
def dO.tS(D:dO (bQ ls) fs M gs)(m:⇑fs<=⇑names)(s:names.Nodup)(b:(bQ ls).Nodup):dJ ls (bS names fs) M:=by
 intro i p r o u;let⟨f,g,rfl⟩:=qX o;have t:=(vx.mp g).1;let⟨c,d,Z⟩:=D.f i f g;have q:=c.js.2;have l:M.getD i []=r:=by simp_all
 rw[l]at d;erw[d.1,λk=>(d.2 k).trans ?_];rw[zm m s λj a=>by have:=q j a;lia];erw[λh=>h.imp id ?_,λh=>h.imp id ?_]
 .rintro⟨x,v,n,j,rfl,a,rfl⟩;rwa[x,v,n,rfl,by rw[jV b a]]
 .rintro⟨x,v,n,e,rfl⟩;cases f with
  | rise x' h' n'=>
   have:x'=x:=by injection e
   subst this;let⟨j,a⟩:=c.1;rwa[x',h',n',j,rfl,a,by rw[jV b a]]
  | hold n=>cases e
  | ring x n=>cases e
  | row is=>cases e
  | side is=>cases e
  | again k j=>cases e
def Lq{M c:L1}(W:dX ls ps)(h:dJ ls ps M)(h':dJ ls ps c)(l:⇑M=⇑ps)(r:⇑c=⇑ps):∀i,i<⇑ps->c.getD i []=M.getD i []:=by
 intro i
 induction i using Nat.strongRecOn with
 | ind i ih=>
  intro q;have e:ps[i]?⊂ps[i]:=vz q;have p:M[i]?⊂(M.getD i []):=by simp_all
  have f:c[i]?⊂(c.getD i []):=by simp_all
  let⟨a,b⟩:=h i _ _ e p;let⟨n,o⟩:=h' i _ _ e f;erw[u6 n a λk=>(o k).trans (Iff.trans ?_ (b k).symm)]
  have m:(∃j∈cM ps (ps[i]).2,k∈c.getD j [])↔∃j∈cM ps (ps[i]).2,k∈M.getD j []:=by
   constructor
   .rintro⟨j,d,g⟩;have:=W.cQ e d;rwa[j,d,by rw[<-ih j this ⋯];rwa[g]]
   .rintro⟨j,d,g⟩;have:=W.cQ e d;rwa[j,d,by rw[ih j this ⋯];rwa[g]]
  rw[m]
def dO.sn(D:dO (bQ ls) fs M gs)(C:⇑fs<=⇑names)(G:names.Nodup)(B:(bQ ls).Nodup)(X:⇑ls<=8)(J:⇑fs<=61)(f1:1<=⇑fs)(Y:∀q∈ls,0<=q.2/\q.2<=10^18):Sn ls (bS names fs) gs M:=by
 have W:=D.wf C G B X J;have O:=D.tS C G B;have dl:⇑(bS names fs)=⇑fs:=j3;have ml:=D.ml;have gl:=D.gl;erw[#[W,⋯,λi w=>?_,λZ T K i w=>Lq W O K ⋯ T i w,λi p t=>?_,λi p qs t e=>?_],⋯,O,λi w=>(D.g i ⋯).1,⋯,Y,λi y x v n t=>?_,λi y x k t=>?_]
 .have:=D.g i ⋯;lia
 .let⟨f,m,rfl⟩:=qX t;have w:=(vx.mp m).1;let⟨d,Z,u⟩:=D.f i f m;have o:=d.js.2;rw[show cM (bS names fs) (names.getD i ⟨#[]⟩,cL names f).2=f.js from zm C G λj A=>by have:=o j A;lia];cases f with
  | hold n=>rwa[trivial,λg h=>Eq.trans h (Eq.symm u)]
  | ring x n=>rwa[trivial,λg h=>Eq.trans h (Eq.symm u)]
  | rise x v n=>rwa[trivial,λg h=>Eq.trans h (Eq.symm u)]
  | row is=>rwa[trivial,λg h=>Eq.trans h (Eq.symm u)]
  | side is=>
   erw[λz=>?_,λg h=>?_]
   .have p2:=d.1;have:⇑is=0:=by rw[<-vt (f:=λj=>gs∘j)];exact congrArg List.length z
    lia
   .let⟨Q,R⟩:=h;let⟨j,A,rfl⟩:=vK.mp Q;let⟨⟨E,s,e'⟩,U⟩:=u;have a1:=U j A;have a2:=R (gs∘E) (vK.mpr #[E,s,rfl]);lia
  | again k j=>
   have P:=D.g j (by have:=o j vq;lia);erw[#[gs∘j,[],rfl,Int.le_trans nofun d.1,d.2.1,⋯,P.2],λg h=>?_];let⟨y,S,rfl⟩:=h;cases S;rwa[Eq.symm u]
 .let⟨f,m,rfl⟩:=qX t;have w:=(vx.mp m).1;let⟨d,Z,Z⟩:=D.f i f m;have o:=d.js.2;rw[show cM (bS names fs) (names.getD i ⟨#[]⟩,cL names f).2=f.js from zm C G λj A=>by have:=o j A;lia];cases f with
  | side is=>
   let⟨Z,Z,Z,H,I⟩:=d;erw[H,λk=>?_];have N:∀o:L6,o.Pairwise (λa b=>∀k∈M.getD a [],¬k∈M.getD b [])->⇑((o.map λj=>M.getD j []).filter λF=>decide (k∈F))<=1:=λo=>by
    induction o with
    | nil=>rwa[λZ=>va _]
    | cons j r ih=>
     intro h;rw[vV]at h;rw[v9,v8];split
     .rename_i c;have e:(r.map λj=>M.getD j []).filter (λF=>decide (k∈F))=[]:=by
       rw[List.filter_eq_nil_iff];intro F L;let⟨E,s,rfl⟩:=vK.mp L;have:=h.1 E s k (of_decide_eq_true c);simpa using this
      rw[e];rwa[vb _]
     .exact ih h.2
   rwa[N is I]
  | hold n=>cases e
  | ring x n=>cases e
  | rise x v n=>cases e
  | row is=>cases e
  | again k j=>cases e
 .let⟨f,m,e⟩:=qX t;let⟨d,Z⟩:=D.f i f m;have l:=(Prod.mk.inj e).2;cases f with
  | rise x' K n'=>
   injection l with e3 e4 e5;subst e3 e4 e5;rwa[d.2]
  | hold n=>cases l
  | ring x n=>cases l
  | row is=>cases l
  | side is=>cases l
  | again k j=>cases l
 .let⟨f,m,e⟩:=qX t;let⟨d,Z⟩:=D.f i f m;have l:=(Prod.mk.inj e).2;cases f with
  | again k' j=>
   injection l with e3 e4;subst e3;rwa[d.1,d.2.1]
  | rise x' K n'=>cases l
  | hold n=>cases l
  | ring x n=>cases l
  | row is=>cases l
  | side is=>cases l
end
end Rm
namespace L2
open PySem PySem.Spec PySem.W PyProof.Rows
def M3(h:(cb P w).is k u=true):RelV (kV k) u:=by
 cases k with
 | inl i=>let⟨t,rfl⟩:=Value.isInt_shape (k:=i) h;rwa[t,rfl]
 | inr z=>let⟨t,rfl⟩:=Value.isStrOf_shape (x:=z) h;rwa[t,rfl]
theorem DS:∀{ys:N2} {us:L9},⇑us=⇑ys->(∀(j:Nat) (u:Value),us[j]?⊂u->∃y,ys[j]?⊂y/\RelV y u)->Vals ys us
 | [],[],_,_=>.nil
 | [],_::_,h,_=>by simp at h
 | _::_,[],h,_=>by simp at h
 | y::ys,u::us,h,q=>by
  let⟨b,e,r⟩:=q 0 u rfl;simp only[List.getElem?_cons_zero,Option.some.injEq]at e;subst e;rwa[.cons r (DS #v[h] λj u a=>#v[q (j+1) u #v[a]])]
open PySem PySem.Spec PyProof.Rows
def FZ{P:Nat->Value->Prop}:∀{xs:N2} {us:L9},⇑us=⇑xs->(∀(i:Nat) v,us[i]?⊂v->P i v)->(∀(i:Nat) (v:Value) (x:V),P i v->xs[i]?⊂x->RelV x v)->Vals xs us:=by
 intro xs
 induction xs generalizing P with
 | nil=>
  intro us h q q;rw[List.length_eq_zero_iff.mp h];rwa[.nil]
 | cons x r ih=>
  intro us h a b;cases us with
  | nil=>rwa[uf h (by simp)]
  | cons u us=>
   erw[.cons (b 0 u x (a 0 u rfl) rfl) (ih (P:=λi v=>P (i+1) v) #v[h] (λi v e=>a (i+1) v #v[e]) λi v y p e=>b (i+1) v y p #v[e])]
def EZ(ta:TA):TE:=λσ H Q=>ta σ H λvs H1=>∃n:Nat,vs=[.int (n:Nat)]/\n<=10^6/\∀p,H1 p=none->Q (.ref p) (upd H1 p (.lst ((List.range n).map λu:Nat=>V.int (u:Nat))))
def M5{a:TA}{b:St}{H:Hp}{Q:VK}(h:a b H λvs H1=>∃n:Nat,vs=[.int (n:Nat)]/\n<=10^6/\∀p,H1 p=none->Q (.ref p) (upd H1 p (.lst ((List.range n).map λu:Nat=>V.int (u:Nat))))):EZ a b H Q:=h
def FT{X:Cx}{a:Expr}{K:TA}{p C D c:Pos}(N:X.calm=true)(r:Gl X "list")(z:X.mg "list"= none)(w:Gl X "range")(A:X.mg "range"= none)(M:PA X [a] K)
  (g:starEach [.Call (.Name "range" C) [a] [] c] X.env=[(false,eval (.Call (.Name "range" C) [a] [] c) X.env)]:=by rfl)
  (R:starEach [a] X.env=[(false,eval a X.env)]:=by rfl) :
  PE X (.Call (.Name "list" p) [.Call (.Name "range" C) [a] [] c] [] D) (EZ K):=by
 intro j s σ H Q I h;erw[wpAny_Call_Name_kw (Zd I r z Q5 ?_)];erw[PyProof.Rows.callWith_type1 ?_ g rfl];rw[g];erw[Calls.spliced_cons ?_];erw[Call_ (Zd I w A boot_range (PyProof.Rows.callWith_type1 (cC (M c j s σ H _ I h) λus l z_=>?_) R rfl))];obtain⟨vs,H1,m,W,U⟩:=z_;let⟨n,rfl,hn,q⟩:=U;let⟨u,rfl,t,rfl⟩:=vals1 W;erw[call_range_1 ?_];erw[Calls.spliced_nil ?_];have T:Builtin.Range.rangeSize 0 (n:Int) 1=((n:Nat):Int):=by rw[rangeSize_one];split<;>lia
 have sl:(10^6:Nat)<=2^24:=by decide
 erw[call_list_range (n:=n) (m.ok.hd N) (IsRange.new ..) (small_one ⋯ ⋯ ⋯ ⋯) T ⋯ λE Y f L S e d=>?_]
 have B:∀b o,l.heap.get? b⊂o->E.get? b⊂o:=λb o e=>S b o (vJ _ e)
 have J:l⁻¹<=(l.heap.push {cls:=.type "range",data:=.fields [.int 0 l.toks,.int n t,.int 1 (l.toks+1)].toArray}).objs.size:=by simp_all
 have Z:Vals ((List.range n).map λu:Nat=>V.int (u:Nat)) f.toList:=by
  erw[FZ (P:=λi v=>∃t,v=Value.int (0+(i:Int)*1) t) (by rw[Array.length_toList,d.1,vt,length_range]) (λi v e=>d.2 i v #v[e]) λi v x O F=>?_]
  rw[vv]at F;let⟨k,y,rfl⟩:=vg.mp F;let⟨t,rfl⟩:=O;have G:=(vx.mp y).1;rw[length_range]at G;rw[List.getElem?_range G]at y;cases y;rwa[t,by simp]
 have sz:(10^6:Nat)<=sizeLine:=by decide
 erw[.ref _,_,m.laid (t':=Y) B J (show cm X.prog X.w _ E _ (.lst ((List.range n).map λu:Nat=>V.int (u:Nat)))from#[by rw[vt,length_range];lia,f.toList,L,Z,#v[e]]),rfl,q _ (m.cv.fresh J)]
noncomputable abbrev NI:=Sum Key (List Key)
noncomputable abbrev NK:=List NI
section
variable(P:Program)(w:World)
inductive hQ(h:Heap):NK->L9->Prop
 | nil:hQ h [] []
 | key {k:Key} {v:Value} {ks:NK} {vs:L9}:fU k v=true->hQ h ks vs->hQ h (Sum.inl k::ks) (v::vs)
 | tup {kk:List Key} {b:Addr} {ks:NK} {vs:L9}:IsTupleKey (cb P w) h kk b->hQ h ks vs->hQ h (Sum.inr kk::ks) (.ref b::vs)
def oK(h:Heap)(ks:NK)(a:Addr):Prop:=∃o items n,h.get? a⊂o/\o.cls = .type "tuple"/\o.data = .seq items n/\hQ P w h ks items.toList
end
section
variable{P:Program}{w:World}{h h':Heap}
def hQ.inj:∀{x y:NK} {vs:L9},hQ P w h x vs->hQ P w h y vs->x=y
 | _,_,_,.nil,q=>by cases q;rfl
 | _,_,_,.key a r,q=>by
  cases q with
  | key b t=>rw[(cb P w).inj _ _ _ a b,r.inj t]
  | tup b t=>rwa[uf ((cb P w).byValue _ _ a) (by simp[carriedByValue])]
 | _,_,_,.tup a r,q=>by
  cases q with
  | key b t=>rwa[uf ((cb P w).byValue _ _ b) (by simp[carriedByValue])]
  | tup b t=>rw[a.inj b,r.inj t]
def hQ.keeps{d:Addr}{o:Obj}{es ep}(ho:h.get? d⊂o)(hd:o.data = .dict es ep)(hs:Heap.SameBut d h h'):∀{x:NK} {vs:L9},hQ P w h x vs->hQ P w h' x vs
 | _,_,.nil=>.nil
 | _,_,.key a r=>.key a (r.keeps ho hd hs)
 | _,_,.tup a r=>.tup (a.keeps ho hd hs) (r.keeps ho hd hs)
noncomputable def rQ(w:World)(P:Program):NI->Int
 | .inl k=>tM w k
 | .inr kk=>tupleKeyHash (cb P w) kk
noncomputable def nC:NI->Nat
 | .inl _=>1
 | .inr kk=>⇑kk+1
noncomputable def l4:NK->Nat
 | []=>1
 | x::r=>nC x+l4 r
noncomputable def nY(w:World)(P:Program)(ks:NK):Int:=reduceHash (Builtin.Tuple.tupleHashOf (ks.map (rQ w P)))
def oK.typeIs{s:Shared}{ks:NK}{a:Addr}(x:oK P w s.heap ks a):s.TypeIs (.ref a) "tuple":=let ⟨o,_,_,ho,hc,_⟩:=x;#[o,ho,hc]
section
variable{A:Around}{E:Nz}{s:Shared}
def IW{x:NI}{ks:NK}{v:Value}{vs:L9}{Q:Int->Shared->Prop}(b:A.units<cLine)(i:hQ P w s.heap (x::ks) (v::vs))(h:Q (rQ w P x) {s with toks:=s.toks+nC x}):wpAny (model P w) A (pyHash v) Q E s:=by
 cases i with
 | key a r=>rwa[(cb P w).pyHash a h]
 | tup a r=>rwa[wpAny_pyHash_tuple b a h]
theorem De(x:NI):∀ks:NK,l4 (ks++[x])=l4 ks+nC x
 | []=>by show nC x+1=1+nC x;lia
 | y::r=>by show nC y+l4 (r++[x])=nC y+l4 r+nC x;rw[De x r];lia
def MA{ks:NK}{a:Addr}{Q:Int->Shared->Prop}(C:A.units+60<cLine)(u:oK P w s.heap ks a)(h:Q (nY w P ks) {s with toks:=s.toks+l4 ks}):wpAny (model P w) A (pyHash (.ref a)) Q E s:=by
 have T:=u.typeIs;let⟨o,m,n,B,Z,v,z⟩:=u;have k:A.units<cLine:=⋯
 unfold pyHash
 first | unfold pyHashByItsType | skip
 first | refine uh (wpAny_cRoomFor_or (.inr k) ?_) | skip
 erw[uh (wpAny_specialOf T F.slot_tuple_hash.lookup ?_)];show wpAny _ _ (if(some (Value.builtin "tuple.__hash__")==some Value.none)=true then _ else _) Q E s;rw[vc (by rw[beq_builtin_none];rwa[vF])];erw[uh (wpAny_specialOf T F.slot_tuple_hash.lookup ?_)];show wpAny _ _ (callSpecialIfBoundUnlessNone? (.ref a) "__hash__" _ >>= _) Q E s;erw[uh (wpAny_callSpecialIfBoundUnlessNone?_slot T F.slot_tuple_hash (wpAny_call_entry F.slot_tuple_hash T F.entry_tuple_hash ?_ (F.args_tuple_hash_1 _)))];show wpAny _ _ (Builtin.Tuple.tupleItemsOf (.ref a) >>= _) _ _ s;erw[uh (wpAny_tupleItemsOf B v ?_)];erw[uh ?_];rw[<-Array.forIn_toList];erw[wpAny_forIn_list _ (λd (b:Array Int) q=>∃c left:NK,ks=c++left/\hQ P w s.heap left d/\b.toList=c.map (rQ w P)/\q={s with toks:=s.toks+(l4 c-1)}) _ ?_ ?_ _ _ #[[],ks,rfl,z,rfl,rfl]]
 .rintro x d b q ⟨c,left,rfl,g,j,rfl⟩;have p:∀y:NI,1<=nC y:=λy=>by cases y<;>simp[nC]
  have i:∀l:NK,1<=l4 l:=λl=>by
   cases l with
   | nil=>rwa[vb _]
   | cons y r=>rwa[vW (p y) (Nat.le_add_right _ _)]
  cases left with
  | nil=>cases g
  | cons y ks'=>
   have e:hQ P w s.heap ks' d:=by cases g with
    | key a r=>rwa[r]
    | tup a r=>rwa[r]
   have f:s.toks+(l4 c-1)+nC y=s.toks+(l4 (c++[y])-1):=by rw[De];have:=i c;lia
   erw[uh (IW (s:={s with toks:=s.toks+(l4 c-1)}) (by show A.units+1<cLine;lia) g ?_)]
   first
    | rwa[ug #[c++[y],ks',by simp,e,by simp[j],by rw[<-f]]]
    | rwa[uh (ug (ug #[c++[y],ks',by simp,e,by simp[j],by rw[<-f]]))]
 .rintro b q ⟨c,left,rfl,g,j,rfl⟩;cases g;rw[append_nil]at h;have i:1<=l4 c:=by
   cases c with
   | nil=>rwa[vb _]
   | cons y r=>cases y<;>simp only[l4,nC]<;>lia
  have t:s.toks+(l4 c-1)+1=s.toks+l4 c:=⋯
  show wpAny _ _ (retInt (Builtin.Tuple.tupleHashOf b.toList)) _ _ _;rw[j];erw[wpAny_ret_mkInt ?_];show wpAny _ _ (if(decide (-(2:Int)^63<=Builtin.Tuple.tupleHashOf (c.map (rQ w P)))&&decide (Builtin.Tuple.tupleHashOf (c.map (rQ w P))<2^63))=true then _ else _) Q E _;unfold nY reduceHash at h;by_cases e:(decide (-(2:Int)^63<=Builtin.Tuple.tupleHashOf (c.map (rQ w P)))&&decide (Builtin.Tuple.tupleHashOf (c.map (rQ w P))<2^63))=true
  .rw[vd e];rw[vd e]at h;rwa[ug (by simpa [t]using h)]
  .rw[vc e];rw[vc e]at h;rwa[uh (wpAny_rule (ug (by simpa [t]using h)))]
def MX{x y:NI}{ks ls:NK}{u v:Value}{us vs:L9}(p:A.units+1<cLine)(i:hQ P w s.heap (x::ks) (u::us))(j:hQ P w s.heap (y::ls) (v::vs)){Q:Bool->Shared->Prop}(h:Q (decide (x=y)) s):wpAny (model P w) A (eqBool u v) Q E s:=by
 have f:∀{m:List Key} {b:Addr},IsTupleKey (cb P w) s.heap m b->∃c,s.heap.IsTuple b c:=λ⟨o,c,n,g,k,l,_⟩=>#[c,o,g,k,n,l]
 cases i with
 | key a r=>
  cases j with
  | key b t=>
   erw[(cb P w).eqBool a b ?_]
   simp_all
  | tup b t=>
   let⟨c,e⟩:=f b;rw[vH (λz=>nomatch z)]at h;rcases Jk a with⟨i,t,rfl,rfl⟩ | ⟨x,t,rfl,rfl⟩
   .exact SeqAt.EqAt.int_tuple i t e ⋯ _ _ _ _ h
   .exact SeqAt.EqAt.str_tuple x t e ⋯ _ _ _ _ h
 | tup a r=>
  let⟨c,d⟩:=f a;cases j with
  | key b t=>
   rw[vH (λz=>nomatch z)]at h;rcases Jk b with⟨i,t,rfl,rfl⟩ | ⟨x,t,rfl,rfl⟩
   .exact SeqAt.EqAt.tuple_int i t d ⋯ _ _ _ _ h
   .exact SeqAt.EqAt.tuple_str x t d ⋯ _ _ _ _ h
  | tup b t=>
   erw[wpAny_eqBool_tuple ⋯ a b ?_]
   simp_all
theorem D5(c:A.units+1<cLine):∀{x y:NK} {us vs:L9},hQ P w s.heap x us->hQ P w s.heap y vs->∀(j:Nat) (h1:j<⇑us) (h2:j<⇑vs),∃(a:j<⇑x) (b:j<⇑y),∀(E:Nz) (Q:Bool->Shared->Prop),Q (decide (x[j]=y[j])) s->wpAny (model P w) A (eqBool us[j] vs[j]) Q E s
 | [],_,_,_,i,_,j,h1,_=>by cases i;rwa[uf h1 (Nat.not_lt_zero _)]
 | _::_,[],_,_,_,i,j,_,h2=>by cases i;rwa[uf h2 (Nat.not_lt_zero _)]
 | x::xs,y::ys,[],_,i,_,_,_,_=>nomatch i
 | x::xs,y::ys,_::_,[],_,i,_,_,_=>nomatch i
 | x::xs,y::ys,u::us,v::vs,i,k,0,_,_=>#[Nat.succ_pos _,Nat.succ_pos _,λE Q h=>MX c i k h]
 | x::xs,y::ys,u::us,v::vs,i,k,j+1,h1,h2=>by
  have d:hQ P w s.heap xs us:=by cases i with
   | key _ r=>rwa[r]
   | tup _ r=>rwa[r]
  have e:hQ P w s.heap ys vs:=by cases k with
   | key _ r=>rwa[r]
   | tup _ r=>rwa[r]
  let⟨a,b,q⟩:=D5 c d e j (Nat.lt_of_succ_lt_succ h1) (Nat.lt_of_succ_lt_succ h2);rwa[Nat.succ_lt_succ a,Nat.succ_lt_succ b,λE Q h=>q E Q h]
def hQ.length:∀{x:NK} {vs:L9},hQ P w h x vs->⇑x=⇑vs
 | _,_,.nil=>rfl
 | _,_,.key _ r=>by rw[vQ,vQ,⇑r]
 | _,_,.tup _ r=>by rw[vQ,vQ,⇑r]
def LG{c:Type}[DecidableEq c]{x y:List c}{e:Nat->Bool}(a:∀j (h1:j<⇑x) (h2:j<⇑y),e j=decide (x[j]=y[j])):((List.range (min ⇑x ⇑y)).all e&&⇑x==⇑y)=decide (x=y):=by
 by_cases z:x=y
 .subst z;rw[vG rfl,Bool.and_eq_true];erw[all_eq_true.mpr λj b=>?_,by simp];have b:=v4.mp b;rw[a j ⋯ ⋯];simp
 .rw[vH z];cases e':((List.range (min ⇑x ⇑y)).all e&&⇑x==⇑y)with
  | false=>rfl
  | true=>
   rw[Bool.and_eq_true]at e';let⟨h1,h2⟩:=e';have h2:⇑x=⇑y:=by simpa using h2
   erw[uf (ext_getElem h2 λj d f=>?_) z];have:=all_eq_true.mp h1 j (v4.mpr ⋯);rw[a j d f]at this;rwa[of_decide_eq_true this]
def NU{x y:NK}{a b:Addr}{Q:Bool->Shared->Prop}(hu:A.units+60<cLine)(T:oK P w s.heap x a)(U:oK P w s.heap y b)(h:Q (decide (x=y)) s):wpAny (model P w) A (eqBool (.ref a) (.ref b)) Q E s:=by
 by_cases B:a=b
 .subst B;let⟨o,c,n,R,_,H,I⟩:=T;let⟨o',a0,n',i,_,f,N⟩:=U;rw[R]at i;cases i;rw[H]at f;cases f;rw[I.inj N,vG rfl]at h;rwa[SeqAt.EqAt.same _ P w E Q h]
 .have X:=T.typeIs;have Y:=U.typeIs;let⟨⟨_,oa,_,sa⟩,c,n,R,Z,H,I⟩:=id T;let⟨⟨_,ob,_,sb⟩,d,m,i,C,f,p⟩:=id U;simp only at Z H C f;subst Z H C f;unfold eqBool;erw[wpAny_holding ?_];refine wpAny_ite_split (λz=>uf (by have:=eq_of_beq z;injection this) B) λ_=>?_
  have lx:⇑x=c.size:=I.length.trans Array.length_toList;have ly:⇑y=d.size:=p.length.trans Array.length_toList
  let e:Nat->Bool:=λj=>decide (x[j]?=y[j]?)
  have J:((List.range (min c.size d.size)).all e&&c.size==d.size)=decide (x=y):=by
   rw[<-lx,<-ly];erw[LG λj K L=>?_]
   show decide (x[j]?=y[j]?)=_;rw[vz K,vz L];rwa[decide_eq_decide.mpr #[vL,congrArg _]]
  erw[uh (wpAny_richCompare_same_room (op:=.Eq) X Y F.slot_tuple_eq (wpAny_call_entry F.slot_tuple_eq X F.entry_tuple_eq ?_ (F.args_tuple_eq_2 _ _)) ⋯)];show wpAny _ _ (isInstance (.ref b) (.type "tuple") >>= _) _ _ s;erw[uh (wpAny_isInstance Y isSubtype_tuple_tuple ?_)];simp only[Bool.not_true,Bool.false_eq_true,if_false];erw[uh (wpAny_tupleItemsOf R rfl ?_)];erw[uh (wpAny_tupleItemsOf i rfl ?_)];erw[uh ?_];erw[wpAny_forIn_list _ (λl r W=>r.1=none/\W=s/\∃k,l=(List.zip c.toList d.toList).drop k/\∀j,j<k->e j=true) _ ?_ ?_ _ _ #[rfl,rfl,0,rfl,λj p=>uf p (Nat.not_lt_zero _)]]
  .rintro⟨u,v⟩ l r W ⟨S,rfl,k,G,O⟩;have D:k<⇑(List.zip c.toList d.toList):=by
    rcases Nat.lt_or_ge k ⇑(List.zip c.toList d.toList) with g | g
    .exact g
    .rw[List.drop_eq_nil_of_le g]at G;cases G
   rw[List.drop_eq_getElem_cons D]at G;injection G with hz1 hz2;rw[length_zip]at D;have l1:k<⇑c.toList:=⋯
   have l2:k<⇑d.toList:=⋯
   rw[List.getElem_zip]at hz1;injection hz1 with eu ev;let⟨K,L,q⟩:=D5 (A:=A.in1) (by show A.units+1+1<cLine;lia) I p k l1 l2;have ek:e k=decide (x[k]=y[k]):=by
    show decide (x[k]?=y[k]?)=_;rw[vz K,vz L];rwa[decide_eq_decide.mpr #[vL,congrArg _]]
   rw[eu,ev];erw[uh (q _ _ ?_)];by_cases z:x[k]=y[k]
   .rw[vG z];simp only[Bool.not_true,Bool.false_eq_true,if_false];erw[ug #[rfl,rfl,k+1,hz2,λj p=>?_]];rcases Nat.lt_or_ge j k with g | g
    .exact O j g
    .have:j=k:=⋯
     subst this;rw[ek,vG z]
   .rw[vH z];simp only[Bool.not_false,if_true];have hf:decide (x=y)=false:=vH λg=>z (by subst g;rfl)
    rw[hf]at h;rwa[uh (ug (ug (ug #[_,rfl,(λe=>nomatch e),wpAny_truthy_bool h])))]
  .rintro⟨r1,r2⟩ W ⟨S,rfl,k,G,O⟩;simp only at S;subst S;have M:⇑(List.zip c.toList d.toList)<=k:=by
    simp_all
   rw[length_zip,Array.length_toList,Array.length_toList]at M;have t:(c.size==d.size)=decide (x=y):=by
    rw[<-J,all_eq_true.mpr λj p=>O j (by have:=v4.mp p;lia),Bool.true_and]
   erw[ug #[_,rfl,(λe=>nomatch e),wpAny_truthy_bool ?_]];rw[t];rwa[h]
def GX{p:List Key}{b:Addr}{n:Nat}{Q:Bool->Shared->Prop}(i:IsTupleKey (cb P w) s.heap p b)(h:Q true s):wpAny (model P w) A (eqIsQuiet (n+1) (.ref b)) Q E s:=by
 have T:=i.typeIs;let⟨o,d,m,l,Z,j,k⟩:=i;unfold eqIsQuiet;erw[uh (wpAny_specialOf T F.slot_tuple_eq.lookup ?_)];show wpAny _ _ (isInstance (.ref b) (.type "tuple") >>= _) _ _ s;erw[uh (wpAny_isInstance T isSubtype_tuple_tuple ?_)];simp only[Bool.not_true,Bool.false_eq_true,if_false];erw[uh (wpAny_seqItems l j ?_)];erw[uh ?_];show wpAny _ _ (forIn d _ _) _ _ s;rw[<-Array.forIn_toList];erw[wpAny_forIn_list _ (λc r g=>r.1=none/\g=s/\∀v∈c,carriedByValue v=true) _ ?_ ?_ _ _ #[rfl,rfl,k.byValue]]
 .rintro v c r g ⟨e,rfl,a⟩;rw[eqIsQuiet_byValue _ (a v vq)];erw[uh (ug ?_)];simp only[Bool.not_true,Bool.false_eq_true,if_false];rwa[ug #[rfl,rfl,λu f=>a u (vp _ f)]]
 .rintro⟨q,t⟩ g ⟨e,rfl,_⟩;simp only at e;subst e;rwa[ug h]
def Md{ks:NK}{a:Addr}{Q:Bool->Shared->Prop}(f:oK P w s.heap ks a)(h:Q true s):wpAny (model P w) A (eqIsQuiet 8 (.ref a)) Q E s:=by
 have T:=f.typeIs;let⟨o,c,m,l,q,i,j⟩:=f;unfold eqIsQuiet;erw[uh (wpAny_specialOf T F.slot_tuple_eq.lookup ?_)];show wpAny _ _ (isInstance (.ref a) (.type "tuple") >>= _) _ _ s;erw[uh (wpAny_isInstance T isSubtype_tuple_tuple ?_)];simp only[Bool.not_true,Bool.false_eq_true,if_false];erw[uh (wpAny_seqItems l i ?_)];erw[uh ?_];show wpAny _ _ (forIn c _ _) _ _ s;rw[<-Array.forIn_toList];erw[wpAny_forIn_list _ (λb r e=>r.1=none/\e=s/\∃g:NK,hQ P w s.heap g b) _ ?_ ?_ _ _ #[rfl,rfl,ks,j]]
 .rintro v b r e ⟨d,rfl,g,k⟩;cases k with
  | key z t=>
   rw[eqIsQuiet_byValue _ ((cb P w).byValue _ _ z)];erw[uh (ug ?_)];simp only[Bool.not_true,Bool.false_eq_true,if_false];rwa[ug #[rfl,rfl,_,t]]
  | tup z t=>
   erw[uh (GX z ?_)];simp only[Bool.not_true,Bool.false_eq_true,if_false];rwa[ug #[rfl,rfl,_,t]]
 .rintro⟨n,p⟩ e ⟨d,rfl,_⟩;simp only at d;subst d;rwa[ug h]
end
noncomputable def fx(P:Program)(w:World):HeapKind P w NK where
 is:=oK P w
 hash:=nY w P
 draws:=l4
 room:=λA=>A.units+60<cLine
 inj:=λhx hy=>by
  let⟨o,its,n,ho,q,hd,hi⟩:=hx;let⟨o',its',n',ho',q,hd',hi'⟩:=hy;rw[ho]at ho';cases ho';rw[hd]at hd';cases hd';rwa[hi.inj hi']
 keeps:=λ{h h' k a d o es ep} x ho hd hs=>by
  let⟨o',its,n,ho',hc,hd',hi⟩:=x;have ne:a≠d:=λz=>by
   lia
  rwa[o',its,n,(hs.2 a ne).trans ho',hc,hd',hi.keeps ho hd hs]
 pyHash:=λhu hk h=>MA hu hk h
 eqBool:=λhu hx hy h=>NU hu hx hy h
 quiet:=λhk h=>Md hk h
end
section
variable{prog:Program}{w:World}{K:Type}[DecidableEq K]{knd:HeapKind prog w K}{A:Around}{E:Nz}{s:Shared}
def Hn{d a:Addr}{xs:List (K×Addr×Value)}{k:K}{v:Value}{Q:Nz}(q:knd.room A)(b:knd.is s.heap k a)(G:s.heap.DictOfH knd d xs)(hz:⇑xs<=sizeLine)
  (C:∀p,atKey xs k⊂p->Q p.2 {s with toks:=s.toks+knd.draws k})
  (D:atKey xs k=none->∀h',h'.DictOfH knd d (xs++[(k,a,v)])->Heap.SameBut d s.heap h'->Q v {s with heap:=h',toks:=s.toks+knd.draws k}) :
  wpAny (model prog w) A (dictSetDefault d (.ref a) v) Q E s:=by
 let⟨o,B,u,g,F,c,l,h,m⟩:=G;have H:=size_of_entries l;unfold dictSetDefault
 try with_reducible erw[wpAny_holding ?_]
 erw[uh (knd.pyHash q b ?_)];erw[uh (wpAny_dictFind_heap (s:={s with toks:=s.toks+knd.draws k}) q b g c l h m (λt=>?_) λj p n=>?_)]
 .have i:k∉xs.map (·.1):=not_mem_keys_of_get t;refine uh (wpAny_rule (uh (wpAny_updateDictKeys (hz:=⋯) (s:={s with toks:=s.toks+knd.draws k}) g c (ug (D (atKey_none_of_get t) _ #[_,_,u+1,Heap.get?_update_self _ g (Obj.isFreed_of_dict (Obj.data_mapDictKeys c _)),F.mapDictKeys _,Obj.data_mapDictKeys c _,?_,λx f=>?_,?_] (Heap.SameBut.update ..))))))
  .simp[l,entryOfKey]
  .rcases vh.mp f with f | f
   .exact knd.keeps (h x f) g c (Heap.SameBut.update ..)
   .rw[vo.mp f];rwa[knd.keeps b g c (Heap.SameBut.update ..)]
  .rw[vj,nodup_append];erw[m,by simp,λx f y r z=>?_];simp only[map_cons,map_nil,mem_singleton]at r;rwa[i (r▸z▸f)]
 .refine uh (wpAny_dictEntries (s:={s with toks:=s.toks+knd.draws k}) g c ?_);have e:B[j]?⊂(entryOfKey knd (k,p)):=by rw[entry_at l j,n];rfl
  rw[e];rwa[uh (wpAny_rule (ug (C p (atKey_of_get m n))))]
def FW(d a:Addr)(i:(d==sysModules)=false)(v:Value) :
  MeetsIn prog w (Builtin.«dict.setdefault» #[[.ref d,.ref a,v],[]]) (λA R s=>knd.room A.in1/\∃k xs,knd.is s.heap k a/\s.heap.DictOfH knd d xs/\⇑xs<=sizeLine/\
   (∀p,atKey xs k⊂p->R (.ok (.ret p.2)) {s with toks:=s.toks+knd.draws k})/\
   (atKey xs k=none->∀h',h'.DictOfH knd d (xs++[(k,a,v)])->Heap.SameBut d s.heap h'->R (.ok (.ret v)) {s with heap:=h',toks:=s.toks+knd.draws k})):=
 .of_wp λA R s ⟨m,k,xs,b,f,n,g,h⟩=>by
  unfold Builtin.«dict.setdefault»;erw[uh ?_];unfold Builtin.Dict.keyAndDefault;erw[uh (wpAny_notOrdered_dict f.typeIs ?_)];show wpAny _ _ (pure (d,Value.ref a,some v)) _ _ s;erw[ug ?_];show wpAny _ _ (if(d==sysModules)=true then _ else(dictSetDefault d (.ref a) v >>= _)) _ _ s;rw[vc (by rw[i];rwa[vF])];rwa[uh (Hn m b f n (λp l=>ug #[p.2,rfl,g p l]) λj h' c e=>ug #[v,rfl,h j h' c e])]
def fu(h:Heap)(d:Addr)(es:Array DictEntry)(ep:Nat):Prop:=∃o,h.get? d⊂o/\o.ExactDict/\o.data = .dict es ep
def fu.typeIs{d:Addr}{es:Array DictEntry}{ep:Nat}(x:fu s.heap d es ep):s.TypeIs (.ref d) "dict":=let ⟨o,ho,hc,_⟩:=x;#[o,ho,hc.1]
def Io{d:Addr}{es:Array DictEntry}{ep:Nat}{Q:Nz}(f:(d==sysModules)=false)(b:fu s.heap d es ep)
  (e:Q (.ref s⁻¹) {s with heap:=s.heap.push {cls:=.type "dict_keyiterator",data:=.fields [.ref d,.int 0 0,.int es.size 0,.int ep 0].toArray}}) :
  wpAny (model prog w) A (pyIter (.ref d)) Q E s:=by
 have T:=b.typeIs;let⟨o,c,g,a⟩:=b;erw[wpAny_pyIter_slot T F.slot_dict_iter (wpAny_call_entry F.slot_dict_iter T F.entry_dict_iter ?_ (F.args_dict_iter_1 _))];unfold Builtin.«dict.__iter__»;erw[uh ?_];unfold Builtin.Dict.dictSlotNone;erw[uh (wpAny_notOrdered_dict T ?_)];show wpAny _ _ (pure (Value.ref d)) _ _ s;erw[ug ?_];show wpAny _ _ (Builtin.Dict.showsAll d >>= _) _ _ s;unfold Builtin.Dict.showsAll;rw[vc (by rw[f];rwa[vF])];erw[uh (ug ?_)];erw[uh (wpAny_dictEntries c a ?_)];erw[uh (wpAny_dictEpoch c a ?_)];erw[uh (wpAny_newObj_type (ug #[_,rfl,"dict_keyiterator",_,#[_,Heap.get?_push_size _ rfl,rfl],F.slot_dict_keyiterator_next.lookup,?_]))];simpa [rawInt]using e
def HZ{it d:Addr}{i ep:Nat}{es:Array DictEntry}{e:DictEntry}{Q:Option Value->Shared->Prop}(a:s.heap.IsKeyIter it d i es.size ep)(n:fu s.heap d es ep)(p:es[i]?⊂e)
  (k:∀h',h'.IsKeyIter it d (i+1) es.size ep->Heap.SameBut it s.heap h'->Q (some e.key) {s with heap:=h'}):wpAny (model prog w) A (pyNext (.ref it)) Q E s:=by
 let⟨o,j,l,h⟩:=id a;let⟨q,f,m,c⟩:=n;unfold pyNext;erw[uh (wpAny_attempt (wpAny_callSpecial?_slot (name:=Str.ofString "__next__") a.typeIs F.slot_dict_keyiterator_next (wpAny_call_entry F.slot_dict_keyiterator_next a.typeIs F.entry_dict_keyiterator_next ?_ (F.args_dict_keyiterator_next_1 _))))];erw[uh (ug ?_)];erw[uh ?_];erw[uh ?_]
 first | refine uh (wpAny_typeNameOfWhole_keyiter a.typeIs (ug ?_)) | erw[uh (wpAny_typeNameOf_keyiter a.typeIs (ug ?_))]
 erw[uh (wpAny_fieldsOf j h ?_)];have g:Builtin.Dict_items.ownsTuple "dict_keyiterator"= false:=by decide
 simp only[g,Bool.false_eq_true,if_false];show wpAny _ _ (if(Value.ref d==Value.none)=true then _ else _) _ _ s;rw[vc (show¬((Value.ref d==Value.none)=true)from vF)];erw[uh (ug (uh (wpAny_dictEntries f c ?_)))];rw[vc (by simp)];erw[uh (ug (uh (wpAny_dictEpoch f c ?_)))];rw[vc (by simp)];erw[ug ?_];simp only[show¬((i:Int)<0)from ⋯,if_false,Int.toNat_natCast,p];erw[uh ?_]
 first | refine uh (wpAny_typeNameOfWhole_keyiter a.typeIs (ug ?_)) | erw[uh (wpAny_typeNameOf_keyiter a.typeIs (ug ?_))]
 erw[uh (wpAny_isOneOf_keyiter a.typeIs ?_)];show wpAny _ _ (setField (.ref it) 1 (rawInt ((i:Int)+1)) >>= _) _ _ s;erw[uh (wpAny_setField j h (by simp) ?_)];have b:(s.heap.update it (Obj.mapFields (·.setIfInBounds 1 (rawInt ((i:Int)+1))))).IsKeyIter it d (i+1) es.size ep:=
  #[_,Heap.get?_update_self _ j (Obj.isFreed_of_fields (Obj.data_mapFields h _)),(Obj.cls_mapFields ..).trans l,by rw[Obj.data_mapFields h];simp[rawInt]]
 erw[uh (wpAny_holding ?_)];erw[uh (wpAny_isOneOf_keyiter (s:={s with heap:=s.heap.update it (Obj.mapFields (·.setIfInBounds 1 (rawInt ((i:Int)+1))))}) b.typeIs ?_)];show wpAny _ _ (pure e.key) _ _ _;rwa[ug (ug #[_,rfl,ug (k _ b (Heap.SameBut.update ..))])]
def Me{it d:Addr}{ep:Nat}{es:Array DictEntry}{Q:Option Value->Shared->Prop}(l:A.handled=none)(c:s.heap.IsKeyIter it d es.size es.size ep)(n:fu s.heap d es ep)
  (j:∀h',Heap.ExtBut it s.heap h'->Q none {s with heap:=h'}):wpAny (model prog w) A (pyNext (.ref it)) Q E s:=by
 let⟨o,i,p,h⟩:=id c;let⟨q,f,k,e⟩:=n;unfold pyNext;erw[uh (wpAny_attempt (wpAny_callSpecial?_slot (name:=Str.ofString "__next__") c.typeIs F.slot_dict_keyiterator_next (wpAny_call_entry F.slot_dict_keyiterator_next c.typeIs F.entry_dict_keyiterator_next ?_ (F.args_dict_keyiterator_next_1 _))))];erw[uh (ug ?_)];erw[uh ?_];erw[uh ?_]
 first | refine uh (wpAny_typeNameOfWhole_keyiter c.typeIs (ug ?_)) | erw[uh (wpAny_typeNameOf_keyiter c.typeIs (ug ?_))]
 erw[uh (wpAny_fieldsOf i h ?_)];have g:Builtin.Dict_items.ownsTuple "dict_keyiterator"= false:=by decide
 simp only[g,Bool.false_eq_true,if_false];show wpAny _ _ (if(Value.ref d==Value.none)=true then _ else _) _ _ s;rw[vc (show¬((Value.ref d==Value.none)=true)from vF)];erw[uh (ug (uh (wpAny_dictEntries f e ?_)))];rw[vc (by simp)];erw[uh (ug (uh (wpAny_dictEpoch f e ?_)))];rw[vc (by simp)];erw[ug ?_];simp only[show¬((es.size:Int)<0)from ⋯,if_false,Int.toNat_natCast,Array.getElem?_eq_none (Nat.le_refl es.size)];erw[uh ?_]
 first | refine uh (wpAny_typeNameOfWhole_keyiter c.typeIs (ug ?_)) | erw[uh (wpAny_typeNameOf_keyiter c.typeIs (ug ?_))]
 show wpAny _ _ (setField (.ref it) 0 .none >>= _) _ _ s;erw[uh (wpAny_setField i h (by simp) ?_)];show wpAny _ _ (newExc (.type "StopIteration") [] >>= _) _ _ _;erw[uh ?_];simp only[newExc,newTuple];erw[uh (wpAny_newObj_type ?_ (by size_fits))];erw[uh (m:=firstArgMember _ _) (wpAny_of_eq (a:=Value.none) (by first | rfl | (simp only[firstArgMember];rfl)) ?_)];erw[wpAny_newObj_type ?_ (by size_fits)];simp only[raiseNew];erw[uh (wpAny_handled ?_)];rw[show A.in1.handled=none from l];erw[uh (ug (wpAny_throw ?_))];erw[uh (wpAny_isInstance (T:="StopIteration") (b:=true) #[_,Heap.get?_push_size _ rfl,rfl] isSubtype_stop ?_)];rwa[ug (j _ (((Heap.SameBut.update ..).extBut.push _).push _))]
def fu.at'{h h':Heap}{d:Addr}{es:Array DictEntry}{ep:Nat}(x:fu h d es ep)(e:∀o,h.get? d⊂o->h'.get? d⊂o):fu h' d es ep:=let ⟨o,ho,r⟩:=x;#[o,e _ ho,r]
def fu.lt{h:Heap}{d:Addr}{es:Array DictEntry}{ep:Nat}(x:fu h d es ep):d<h.objs.size:=let ⟨_,ho,_⟩:=x;vI ho
def G7(q:A.handled=none)(I d:Addr)(m:d≠I)(es:Array DictEntry)(ep:Nat) :
  Walks prog w A I [I,d] [I] es.size (λi v=>∃e,es[i]?⊂e/\v=e.key) (λi h=>h.IsKeyIter I d i es.size ep/\fu h d es ep) where
 sub:=λb c=>by simp at c;simp[c]
 frame:=λZ Z Z a p=>#[a.1.at λo e=>p I (by simp) o e,a.2.at' λo e=>p d (by simp) o e]
 item:=λi s Q E n a f=>HZ a.1 a.2 (Array.getElem?_eq_getElem n) λk g j=>
  f _ k s.toks #[_,Array.getElem?_eq_getElem n,rfl] #[g,a.2.at' λo e=>j.extBut d o m e] λb o c e=>j.extBut b o (λh=>c (by simp[h])) e
 done:=λs Q E a f=>Me q a.1 a.2 λk l=>f k s.toks λb o c e=>l b o (λh=>c (by simp[h])) e
 self:=λZ Z Z Z a f=>wpAny_pyIter_keyiter a.1 f
def Mf{d:Addr}{es:Array DictEntry}{ep:Nat}(lo:(d==sysModules)=false):KdlSrc prog w "dict" d d es.size (λi v=>∃e,es[i]?⊂e/\v=e.key) (λh=>fu h d es ep) where
 type:=λq a=>a.typeIs
 there:=λq a=>#[a.lt,a.lt]
 keep:=λq q a f=>a.at' λo e=>f d (.inl rfl) o e
 notList:=by decide
 notTuple:=by decide
 hint:=λq q q q a b=>kdl_hint_dict a.typeIs b
 iter:=λq q c a=>#[_,_,(λq q b=>Io lo a b),G7 c _ d (vE a.lt) es ep,#[#[_,Heap.get?_push_size _ rfl,rfl,rfl],a.at' λo e=>vJ _ e]]
end
inductive rG(H:Hp):N2->NK->Prop
 | nil:rG H [] []
 | key {k:Key} {vs:N2} {ks:NK}:rG H vs ks->rG H (kV k::vs) (Sum.inl k::ks)
 | tup {b:Addr} {kk:List Key} {vs:N2} {ks:NK}:H b⊂(.tup (kk.map kV))->rG H vs ks->rG H (.ref b::vs) (Sum.inr kk::ks)
def rF(H:Hp)(b:Addr)(ks:NK):Prop:=∃vs,H b⊂.tup vs/\rG H vs ks
section
variable{P:Program}{w:World}{H:Hp}{h:Heap}
theorem AX(a:eX P w H h):∀{vs:N2} {ks:NK} {us:L9},rG H vs ks->Vals vs us->hQ P w h ks us
 | _,_,_,.nil,r=>by cases r;rwa[.nil]
 | _,_,_,.key t,r=>by
  cases r with
  | cons r1 r2=>rwa[.key (xS (P:=P) (w:=w) r1) (AX a t r2)]
 | _,_,_,.tup e t,r=>by
  cases r with
  | cons r1 r2=>
   cases r1;rwa[.tup (Wy a e) (AX a t r2)]
def D8{b:Addr}{ks:NK}(c:eX P w H h)(x:rF H b ks):oK P w h ks b:=by
 let⟨i,e,n⟩:=x;let⟨q,a,r,o,d,f,m,g⟩:=(show cm P w H h b (.tup i)from c b _ e)
 rwa[o,a.toArray,m,d,f,g,#v[AX c n r]]
end
noncomputable abbrev NE:=NK×Addr×V
noncomputable def lY(P:Program)(w:World)(a:Addr)(xs:List NE):HO:=.ext λh=>⇑xs<=sizeLine/\(a==sysModules)=false/\(xs.map (·.1)).Nodup/\∃ys:List (NK×Addr×Value),
 Paired (λ(p:NE) (q:NK×Addr×Value)=>p.1=q.1/\p.2.1=q.2.1/\RelV p.2.2 q.2.2) xs ys/\∃es ep,fu h a es ep/\es.toList=ys.map (entryOfKey (fx P w))
section
variable{P:Program}{w:World}{H:Hp}{h:Heap}{a:Addr}{xs:List NE}
def D2(z:⇑xs<=sizeLine)(c:(a==sysModules)=false)(d:(xs.map (·.1)).Nodup){ys:List (NK×Addr×Value)}(r:Paired (λ(p:NE) (q:NK×Addr×Value)=>p.1=q.1/\p.2.1=q.2.1/\RelV p.2.2 q.2.2) xs ys)
  {es:Array DictEntry} {ep:Nat} (b:fu h a es ep) (e:es.toList=ys.map (entryOfKey (fx P w))):cm P w H h a (lY P w a xs):=by
 erw[#[z,c,d,ys,r,es,ep,b,e],let ⟨o,ho,_⟩:=b;#[o,ho],?_];rintro f g ⟨z,c,d,ys,r,es,ep,b,e⟩ k;rwa[z,c,d,ys,r,es,ep,b.at' k,e]
def lL(xs:List NE)(ys:List (NK×Addr×Value)):Prop:=Paired (λ(p:NE) (q:NK×Addr×Value)=>p.1=q.1/\p.2.1=q.2.1/\RelV p.2.2 q.2.2) xs ys
theorem lL.keys:∀{xs:List NE} {ys:List (NK×Addr×Value)},lL xs ys->ys.map (·.1)=xs.map (·.1)
 | _,_,.nil=>rfl
 | _,_,.cons r t=>by rw[v9,v9,r.1,lL.keys t]
def lL.length{xs:List NE}{ys:List (NK×Addr×Value)}(r:lL xs ys):⇑xs=⇑ys:=by
 have:=congrArg List.length r.keys
 simp_all
theorem lL.snoc{k:NK}{b:Addr}{v:V}{u:Value}(a:RelV v u):∀{xs:List NE} {ys:List (NK×Addr×Value)},lL xs ys->lL (xs++[(k,b,v)]) (ys++[(k,b,u)])
 | _,_,.nil=>.cons #[rfl,rfl,a] .nil
 | _,_,.cons r t=>.cons r (lL.snoc a t)
theorem lL.all{F:NK->Addr->Prop}:∀{xs:List NE} {ys:List (NK×Addr×Value)},lL xs ys->(∀p∈xs,F p.1 p.2.1)->∀q∈ys,F q.1 q.2.1
 | _,_,.nil,_=>λq b=>nomatch b
 | _,_,.cons (a:=x) r t,h=>λq b=>by
  rcases mem_cons.mp b with rfl | b
  .have:=h _ vq;rw[r.1,r.2.1]at this;rwa[this]
  .exact lL.all t (λp c=>h p (vp _ c)) q b
theorem lL.sE{k:NK}:∀{xs:List NE} {ys:List (NK×Addr×Value)},lL xs ys->(∀p,xs.find? (λp=>decide (p.1=k))⊂p->∃u,atKey ys k⊂(p.2.1,u)/\RelV p.2.2 u)/\(xs.find? (λp=>decide (p.1=k))=none->atKey ys k=none)
 | _,_,.nil=>#[λp e=>by simp at e,λj=>rfl]
 | _,_,.cons (a:=x) (b:=y) (l₂:=m) r t=>by
  let⟨d,f⟩:=lL.sE (k:=k) t;by_cases e:x.1=k
  .have c:y.1=k:=r.1▸e;refine#[λp q=>?_,λq=>?_]
   .rw[List.find?_cons,vG e]at q;cases q;erw[y.2.2,?_,r.2.2];unfold atKey;rw[List.find?_cons,vG c,r.2.1];rfl
   simp_all
  .have c:¬y.1=k:=r.1▸e;have z:atKey (y::m) k=atKey m k:=by
    unfold atKey
    simp_all
   erw[λp q=>?_,λq=>?_]
   .rw[List.find?_cons,vH e]at q;rw[z];rwa[d p q]
   .rw[List.find?_cons,vH e]at q;rw[z];rwa[f q]
end
section
variable{X:Cx}
def oy(P:Program)(w:World):TE:=λq H Q=>∀p,H p=none->Q (.ref p) (upd H p (lY P w p []))
def HM{b:Pos}:PE X (.Dict [] [] b) (oy X.prog X.w):=λc s d H Q I h=>
 wpAny_Dict_empty #[.ref s⁻¹,_,I.laid (a:=s⁻¹) (o:=lY X.prog X.w s⁻¹ []) (t':=s.toks) (λj j q=>vJ _ q) (vb _)
  (D2 (va _) (beq_eq_false_iff_ne.mpr (Ne.symm (vE I.big))) nodup_nil .nil (es:=#[]) (ep:=0) #[_,Heap.get?_push_size _ rfl,#[rfl,rfl,rfl],rfl] rfl),rfl,h _ (I.cv.fresh (vb _))]
def Ip{P:Program}{w:World}{a:St}{H:Hp}{Q:VK}(h:∀p,H p=none->Q (.ref p) (upd H p (lY P w p []))):oy P w a H Q:=h
def vr{b:Ny}{c:St}{H:Hp}{s:Shared}{a:Addr}{xs:List NE}(I:Inv X b c H s)(e:H a⊂(lY X.prog X.w a xs)):⇑xs<=sizeLine/\(a==sysModules)=false/\(xs.map (·.1)).Nodup/\∃ys,lL xs ys/\∃es ep,fu s.heap a es ep/\es.toList=ys.map (entryOfKey (fx X.prog X.w)):=
 (show cm X.prog X.w H s.heap a (lY X.prog X.w a xs)from I.cv a _ e).1
def rn(P:Program)(w:World)(to:TE)(t:TA):TE:=λσ H Q=>to σ H λx H1=>∃a xs1,x = .ref a/\H1 a⊂(lY P w a xs1)/\t σ H1 λvs H2=>∃(xs:List NE) (b:Addr) (k:NK) (v:V),vs=[.ref b,v]/\H2 a⊂(lY P w a xs)/\(∀p∈xs,rF H2 p.2.1 p.1)/\rF H2 b k/\⇑xs<sizeLine/\
 (∀p,xs.find? (λp=>decide (p.1=k))⊂p->Q p.2.2 H2)/\(xs.find? (λp=>decide (p.1=k))=none->Q v (upd H2 a (lY P w a (xs++[(k,b,v)]))))
def LW{o e:Expr}{es:Nt}{to:TE}{t:TA}{f c:Pos}(hu:X.A.units+64<cLine)(ho:PE X o to)(ha:PA X (e::es) t)
  (i:attributeBase o "setdefault" X.env (eval o X.env)=eval o X.env:=by rfl)
  (y:((backTo c (starEach (e::es) X.env)).all (λx=>!x.1)&&(backToKw c (keywordEach [] X.env)).all (λx=>x.1.isSome)
   && decide (⇑(e::es)+⇑([]:List Keyword)+(if([]:List Keyword).isEmpty then 0 else 1)<30))=true:=by rfl)
  (l:(f.endLine==c.line)=true:=by rfl) (hs:starEach (e::es) X.env=(false,eval e X.env)::starEach es X.env:=by rfl) (d:(backTo c (starEach es X.env)).any (·.1)=false:=by rfl) :
  PE X (.Call (.Attribute o "setdefault" f) (e::es) [] c) (rn X.prog X.w to t):=by
 intro g s σ H Q I h;erw[wpAny_Call_method_late i y l rfl (cC (ho g s σ H _ I h) λv s1 z_=>?_)];obtain⟨x,H1,W,r1,a,a2,ex,e1,q1⟩:=z_;subst ex;cases r1;let⟨_,_,_,_,_,_,_,C,_⟩:=vr W e1;erw["dict","dict.setdefault",q7,PySem.F.slot_dict_setdefault,PySem.F.type_dict_setdefault,C.typeIs,λb eb=>?_,?_]
 .cases eb;let⟨ob,h1,h2,_⟩:=C;rwa[ob,h1,h2.2.1]
 have hA:=ha c g s1 σ H1 _ W q1;rw[hs]at hA|-;erw[Calls.callWith_builtin (by show(false||(backTo c (starEach es X.env)).any (·.1))=false;rw[d]<;>rfl) (Calls.evalArgs_plain ?_)];erw[cC hA λus T z_=>?_];obtain⟨vs,H2,w,r2,U,b,k,v,ev,Y,E,nb,z,f1,f2⟩:=z_
 subst ev;cases r2 with
 | cons rb rr=>
  cases rb;let⟨u,rfl,ru⟩:=vals1 rr;let⟨z2,hd,hn,ys,r,J,ep,D,he⟩:=vr w Y;have T2:=D.typeIs;let⟨o2,P,K,M⟩:=D;have dd:T.heap.DictOfH (fx X.prog X.w) a ys:=#[o2,J,ep,P,K,M,he,λq hq=>r.all (F:=λk b=>oK X.prog X.w T.heap k b) (λp n=>D8 w.cv (E p n)) q hq,by rw[r.keys];rwa[hn]]
  have ln:=⇑r;let⟨Z,g2⟩:=r.sE (k:=k);erw[call_meetsIn PySem.F.slot_dict_setdefault T2 PySem.F.entry_dict_setdefault (PySem.F.args_dict_setdefault_3 _ _ _) (FW (knd:=fx X.prog X.w) a b hd u) #[by show X.A.units+1+60<cLine;lia,k,ys,D8 w.cv nb,dd,⋯,λp n=>?_,λno h' G R=>?_]]
  .cases j:U.find? (λp=>decide (p.1=k))with
   | none=>rw[g2 j]at n;cases n
   | some p'=>
    let⟨u',m,S⟩:=Z p' j;rw[m]at n;cases n;rwa[p'.2.2,H2,w.tok _,S,f1 p' j]
  .have j:U.find? (λp=>decide (p.1=k))=none:=by
    cases j:U.find? (λp=>decide (p.1=k))with
    | none=>rfl
    | some p'=>
     let⟨u',m,_⟩:=Z p' j;rw[m]at no;cases no
   let⟨o3,a1,a0,B,L,N,O,_,A⟩:=G;rw[vj,r.keys]at A;erw[v,_,YG (t':=T.toks+_) w (by rw[Y];rwa[True.intro]) R #[_,B] (D2 (by rw[vn,vS];lia) hd (by rw[vj];rwa[A]) (r.snoc ru) #[o3,B,L,N] O),ru,f2 j]
def Mh{P:Program}{w:World}{e:TE}{t:TA}{d:St}{H:Hp}{Q:VK} (h:e d H λx H1=>∃a c,x = .ref a/\H1 a⊂(lY P w a c)/\t d H1 λvs H2=>∃(xs:List NE) (b:Addr) (k:NK) (v:V),vs=[.ref b,v]/\H2 a⊂(lY P w a xs)/\(∀p∈xs,rF H2 p.2.1 p.1)/\rF H2 b k/\⇑xs<sizeLine/\
 (∀p,xs.find? (λp=>decide (p.1=k))⊂p->Q p.2.2 H2)/\(xs.find? (λp=>decide (p.1=k))=none->Q v (upd H2 a (lY P w a (xs++[(k,b,v)]))))):rn P w e t d H Q:=h
def GL:c8 X (.builtin "len") (λxs H Q=>∃a ys,xs=[V.ref a]/\H a⊂(lY X.prog X.w a ys)/\Q (.int ⇑ys) H):=by
 intro f s E H xs B Q I r h;let⟨a,ys,rfl,i,q⟩:=h;let⟨u,rfl,w⟩:=vals1 r;cases w;let⟨z,l,A,C,v,j,x,c,n⟩:=vr I i;have T:=c.typeIs;let⟨o,p,y,b⟩:=c;have t:j.size=⇑ys:=by rw[<-Array.length_toList,n,vt,⇑v]
 have D:=sizeLine_eq;erw[Calls.call_function_entry kind_len plain_len entry_len (args_len1 _) ?_];unfold Builtin.«len»;erw[uh (m:=oneArg "len" _) (ug ?_)];have d:wpAny (model X.prog X.w) X.A.in1 (callSpecial? (.ref a) (Str.ofString "__len__")) (λr g=>r⊂(.int ⇑ys s.toks)/\g={s with toks:=s.toks+1}) X.xe s:=by
  erw[wpAny_callSpecial?_slot (name:=Str.ofString "__len__") T F.slot_dict_len (wpAny_call_entry F.slot_dict_len T F.entry_dict_len ?_ (F.args_dict_len_1 _))];show wpAny _ _ (dictSize a >>= _) _ _ s;unfold dictSize;erw[uh (uh (wpAny_dictEntries p b (ug ?_)))];show wpAny _ _ (Builtin.Dict.pendingCount a >>= _) _ _ s;erw[uh (wpAny_pendingCount_other l ?_)];erw[wpAny_ret_mkInt ?_];rw[Nat.add_zero,t];rwa[rfl,rfl]
 erw[uh (wpAny_mono d (λr g k=>?_) λZ Z e=>e)];let⟨rfl,rfl⟩:=k;show wpAny _ _ _ _ _ {s with toks:=s.toks+1};erw[uh (wpAny_holding (ug ?_))];erw[uh (wpAny_letGo ?_)];show wpAny _ _ (if((⇑ys:Nat):Int)<0 then _ else _) _ _ _;rw[vc ⋯];show wpAny _ _ (if((⇑ys:Nat):Int)>=2^63 then _ else _) _ _ _;rw[vc ⋯];rwa[uh (wpAny_mkInt (ug #[_,rfl,.int ⇑ys,H,I.tok _,#[_,rfl],q]))]
def Fv(D:X.calm=true):c8 X (.type "list") (λxs H Q=>∃(a:Addr) (ys:List NE),xs=[.ref a]/\H a⊂(lY X.prog X.w a ys)/\∀l,H l=none->Q (.ref l) (upd H l (.lst (ys.map λq=>.ref q.2.1)))):=by
 intro w s R H xs P Q I r h;let⟨a,ys,rfl,B,q⟩:=h;let⟨u,rfl,J⟩:=vals1 r;cases J;let⟨z,E,N,g,k,es,ep,m,o⟩:=vr I B;have G:es.size=⇑ys:=by rw[<-Array.length_toList,o,vt,⇑k]
 erw[kdl_call (Mf (es:=es) (ep:=ep) E) (I.ok.hd D) m ⋯ λC L b A F M c=>?_]
 have K:Vals (ys.map λq=>.ref q.2.1) b.toList:=DS (by rw[Array.length_toList,vt,<-G];rwa[c.1]) λj u O=>by
  let⟨e,d,rfl⟩:=c.2 j u (by simp_all);rw[<-Array.getElem?_toList,o,vv]at d;let⟨y,n,rfl⟩:=vg.mp d;have v:j<⇑ys:=by rw[⇑k];rwa[(vx.mp n).1]
  have i:∀{xs:List NE} {g:List (NK×Addr×Value)} {j:Nat} {y:NK×Addr×Value} {x:NE},lL xs g->g[j]?⊂y->xs[j]?⊂x->x.2.1=y.2.1:=by
   intro xs g j y x p
   induction p generalizing j with
   | nil=>intro e;simp at e
   | cons r t ih=>
    cases j with
    | zero=>intro d f;simp at d f;subst d f;rwa[r.2.1]
    | succ j=>intro d f;rwa[ih #v[d] #v[f]]
  erw[.ref ys[j].2.1,by rw[vv,vz v];rfl,?_];rw[i k n (vz v)];rfl
 erw[.ref s⁻¹,_,I.laid (t':=L) F (vb _) (show cm X.prog X.w _ C _ (.lst (ys.map λq=>.ref q.2.1))from#[by rw[vt];rwa[z],b.toList,A,K,by simp_all]),rfl,q _ (I.cv.fresh (vb _))]
def AY{K:cp}(e:X.K=K)(p:X.A.units+1<cLine):rC X (λx y H Q=>oi K x y H Q\/∃a v,x = .ref a/\cY H a y (some v)/\Q v H):=by
 subst e;intro c b d s n H x y v u Q I l m h k;rcases h with h | ⟨a,t,rfl,g,q⟩
 .exact jv c b d s n H x y v u Q I l m h k
 .cases l;have T:=wo I g;unfold subscriptTail;erw[uh ?_];rw[getitemInPython_of_ne T.not_modules];erw[uh (wpAny_specialOf T PySem.F.slot_dict_getitem.lookup ?_)];have f:wpAny (model X.prog X.w) X.A (subscripted b false (.ref a) u) (λr i=>wpAny (model X.prog X.w) X.A (letTemporaryGo c (.ref a) r >>= λZ=>pure r) (EP X d n Q) X.xe i) X.xe s:=by
   rw[k];rwa[wpAny_operating (xF p I g m λz w o j=>uh (wpAny_letTemporaryGo (ug #[t,H,o,j,q])))]
  first
   | rwa[ug (uh f)]
   | rwa[uh (ug (uh f))]
   | rwa[uh f]
end
theorem pT{P:Program}{w:World}:∀{ks:L5} {us:L9},⇑us=⇑ks->(∀(j:Nat) (u:Value) (k:Int),us[j]?⊂u->ks[j]?⊂k->(cb P w).is (Sum.inl k) u=true)->IntsAre us ks
 | [],[],_,_=>.nil
 | [],_::_,h,_=>by simp at h
 | _::_,[],h,_=>by simp at h
 | k::ks,u::us,h,q=>by
  let⟨t,rfl⟩:=Value.isInt_shape (k:=k) (q 0 u k rfl rfl);rwa[.cons k t (pT (P:=P) (w:=w) #v[h] λj u k b a=>q (j+1) u k #v[b] #v[a])]
def W5{X:Cx}(U:X.calm=true):c8 X (.builtin "sorted") (λxs H Q=>∃(d:Addr) (kvs:List (Key×V)) (ks:L5),xs=[.ref d]/\H d⊂.dK kvs/\kvs.map (·.1)=ks.map Sum.inl/\⇑ks<64/\∀(l:Addr) (ms:L5),H l=none->ms.Perm ks->ms.Pairwise (·<=·)->Q (.ref l) (upd H l (.lst (ms.map V.int)))):=by
 intro J s σ H xs us Q I r h;let⟨d,kvs,ks,rfl,O,Z,R,q⟩:=h;let⟨u,rfl,ru⟩:=vals1 r;cases ru;let⟨z1,t,v,K,n⟩:=Wj I.cv O;let⟨ep,p⟩:=n.dictAt;have F:⇑kvs=⇑ks:=by have:=congrArg List.length Z;rw[vt,vt]at this;rwa[this]
 have vl:=⇑K;erw[Calls.call_function_entry kind_sorted plain_sorted entry_sorted (args_sorted1 _) ?_];unfold Builtin.«sorted»;erw[uh (m:=checkCount "sorted" 1 1 _) (ug ?_)];erw[uh (kdu_collect (A:=X.A.in1) (kdl_dict (knd:=cb X.prog X.w) (kvs:=v) (ep:=ep) t) (I.ok.hd U) p ⋯ λi tk a c f=>?_)];have B:⇑a.toList=⇑ks:=by rw[Array.length_toList,f.1,<-vl,F]
 have S:IntsAre a.toList ks:=pT (P:=X.prog) (w:=X.w) B λj u k hu Y=>by
  let⟨k',x,e,a0⟩:=f.2 j u (by simp_all);have E:j<⇑kvs:=by rw[F];rwa[(vx.mp Y).1]
  let⟨y,C,N,_⟩:=K.get (vz E);rw[e]at C;cases C;have e4:(kvs.map (·.1))[j]?⊂k':=by rw[vv,vz E];rwa[congrArg some N]
  simp_all
 erw[uh (wpAny_newList ?_ (by rw[B,sizeLine_eq];lia))];have g:(i.push (seqObj "list" a.toList.toArray 0)).get? i.objs.size⊂(seqObj "list" a.toList.toArray 0):=Heap.get?_push_size _ rfl;erw[uh (wpAny_holding (wpAny_call_entry slot_list_sort #[_,g,rfl] entry_list_sort (list_sort_tree g S ⋯ λout ms L z M=>#[_,rfl,?_]) (args_list_sort _)))];erw[ug #[_,rfl,?_]];have ml:⇑ms=⇑ks:=z.length_eq;have D:=I.mO c;have T:=I.tV c;have k2:∀b o,s.heap.get? b⊂o->(sortedHeap (i.push (seqObj "list" a.toList.toArray 0)) i.objs.size a.toList out).get? b⊂o:=λb o e=>by
  have G:=vI (c b o e);rw[sortedHeap_old (vE G) (by rw[size_push'];rwa[Nat.lt_succ_of_lt G])];rwa[vJ _ (c b o e)]
 let⟨e',W⟩:=sortedHeap_at (out:=out) g;erw[.ref i.objs.size,_,(I.kept (t':=tk) k2).rp D T (show cm X.prog X.w _ _ _ (.lst (ms.map V.int))from#[by simp_all,out.toList,_,Lf L,by rw[Array.toArray_toList];rwa[W]]),rfl,q _ ms D z M]
end L2
namespace Rm
open PySem PySem.Spec PyProof.Rows L2
inductive Gv where
 | oj (r:Bool) (vs:N2) | rise (x h n:V) | again (k x:V) | many (s:Bool) (xs:N2)
noncomputable def lJ(H:Hp)(a:Addr):Gv->Prop
 | .oj r vs=>H a⊂(.tup (.str (if r then "ring" else "hold")::vs))
 | .rise x h n=>H a⊂(.tup [.str "raise",x,h,n])
 | .again k x=>H a⊂(.tup [.str "again",k,x])
 | .many s xs=>∃b,H a⊂(.tup [.str (if s then "side" else "row"),.ref b])/\H b⊂.tup xs
def lJ.same{H H':Hp}{a:Addr}{g:Gv}(s:bU H H')(h:lJ H a g):lJ H' a g:=by
 cases g with
 | oj r vs=>rwa[s _ _ h]
 | rise x g n=>rwa[s _ _ h]
 | again k x=>rwa[s _ _ h]
 | many t xs=>let⟨b,c,d⟩:=h;rwa[b,s _ _ c,s _ _ d]
def lJ.dF{H H':Hp}{a:Addr}{g:Gv}(s:∀b xs,H b⊂.tup xs->H' b⊂.tup xs)(h:lJ H a g):lJ H' a g:=by
 cases g with
 | oj r vs=>rwa[s _ _ h]
 | rise x g n=>rwa[s _ _ h]
 | again k x=>rwa[s _ _ h]
 | many t xs=>let⟨b,c,d⟩:=h;rwa[b,s _ _ c,s _ _ d]
def Itm(H:Hp)(l:Addr)(x y:V):Prop:=(∃xs i,H l⊂.lst xs/\x = .int i/\eZ xs i⊂y)\/cY H l x (some y)
def XQ{K:cp}{H:Hp}{l:Addr}{x y:V}{Q:VK}(h:Itm H l x y)(q:Q y H):oi K (.ref l) x H Q\/∃a v,V.ref l = .ref a/\cY H a x (some v)/\Q v H:=by
 rcases h with⟨b,i,e,rfl,h⟩ | h
 .exact .inl #[l,b,i,y,rfl,rfl,bV.of e,h,q]
 .exact .inr #[l,y,rfl,h,q]
def Itm.same{H H':Hp}{l:Addr}{x y:V}(s:bU H H')(h:Itm H l x y):Itm H' l x y:=by
 rcases h with⟨g,i,e,rfl,h⟩ | h
 .exact .inl #[g,i,s _ _ e,rfl,h]
 .refine .inr ?_;rcases h with⟨a,k,e,c,d⟩ | ⟨a,k,b,e,c,d,f⟩
  .exact .inl #[a,k,e.imp (λe=>s _ _ e) λ⟨o,e⟩=>#[o,s _ _ e],c,d]
  .exact .inr #[a,k,b,e.imp (λe=>s _ _ e) λ⟨o,e⟩=>#[o,s _ _ e],c,s _ _ d,f]
noncomputable def mj(H:Hp)(l p:Addr):Gv->Gv->Prop
 | .oj r vs,g=>g = .oj r vs
 | .rise x h n,g=>∃y,Itm H l x y/\g = .rise y h n
 | .again k x,g=>∃y,Itm H p x y/\g = .again k y
 | .many s xs,g=>∃ys,⇑ys=⇑xs/\(∀(i:Nat) (x y:V),xs[i]?⊂x->ys[i]?⊂y->Itm H p x y)/\⇑xs<=8/\g = .many s ys
inductive fA(vs:N2)(H:Hp)(Q:VK)(xk:XK):Prop
 | mk (a l p g g'):vs=[.ref a,.ref l,.ref p]->lJ H a g->mj H l p g g'->(∀(b:Addr) (H':Hp),bU H H'->lJ H' b g'->Q (.ref b) H')->fA vs H Q xk
noncomputable def Gv.ns:Gv->N2
 | .again _ x=>[x]
 | .many _ xs=>xs
 | _=>[]
inductive fL(vs:N2)(H:Hp)(Q:VK)(xk:XK):Prop
 | mk (a) (g:Gv):vs=[.ref a]->lJ H a g->(∀(b:Addr) (H':Hp),bU H H'->H' b⊂.tup g.ns->Q (.ref b) H')->fL vs H Q xk
noncomputable def gF:Fm->Gv
 | .hold n=>.oj false [.int n]
 | .ring x n=>.oj true [.str x,.int n]
 | .rise x h n=>.rise (.str x) (.int h) (.int n)
 | .row ps=>.many false (ps.map V.str)
 | .side ps=>.many true (ps.map V.str)
 | .again k x=>.again (.int k) (.str x)
def Wr{H:Hp}{a:Addr}{f:Fm}:cf H a f↔lJ H a (gF f):=by
 cases f<;>rwa[Iff.rfl]
inductive Dm where
 | hold (n:Int) | ring (x:Str) (n:Int) | rise (l:Nat) (h n:Int) | row (ps:L6) | side (ps:L6) | again (k:Int) (p:Nat)
 deriving DecidableEq
noncomputable def gD:Dm->Gv
 | .hold n=>.oj false [.int n]
 | .ring x n=>.oj true [.str x,.int n]
 | .rise l h n=>.rise (.int l) (.int h) (.int n)
 | .row ps=>.many false (ps.map vN)
 | .side ps=>.many true (ps.map vN)
 | .again k p=>.again (.int k) (.int p)
noncomputable def Dm.ns:Dm->L6
 | .row ps=>ps
 | .side ps=>ps
 | .again _ p=>[p]
 | _=>[]
def MZ(d:Dm):(gD d).ns=d.ns.map vN:=by cases d<;>rfl
noncomputable def iK(n:Nat):Key:=Sum.inl (n:Int)
noncomputable def kD:Dm->NK
 | .hold n=>[Sum.inl (Sum.inr "hold"),Sum.inl (Sum.inl n)]
 | .ring x n=>[Sum.inl (Sum.inr "ring"),Sum.inl (Sum.inr x),Sum.inl (Sum.inl n)]
 | .rise l h n=>[Sum.inl (Sum.inr "raise"),Sum.inl (iK l),Sum.inl (Sum.inl h),Sum.inl (Sum.inl n)]
 | .row ps=>[Sum.inl (Sum.inr "row"),Sum.inr (ps.map iK)]
 | .side ps=>[Sum.inl (Sum.inr "side"),Sum.inr (ps.map iK)]
 | .again k p=>[Sum.inl (Sum.inr "again"),Sum.inl (Sum.inl k),Sum.inl (iK p)]
theorem XN:∀{a b:L6},a.map iK=b.map iK->a=b
 | [],[],_=>rfl
 | [],_::_,h=>by simp at h
 | _::_,[],h=>by simp at h
 | x::a,y::b,h=>by
  rw[v9,v9]at h;injection h with h1 h2;have:(x:Int)=y:=Sum.inl.inj h1;rw[XN h2,show x=y by lia]
def zw{x y:Str}{r s:NK}(h:(Sum.inl (Sum.inr x):NI)::r=Sum.inl (Sum.inr y)::s):x=y/\r=s:=by
 injection h with h1 h2;rwa[Sum.inr.inj (Sum.inl.inj h1),h2]
def M6{d e:Dm}(h:kD d=kD e):d=e:=by
 cases d with
 | hold n=>
  cases e with
  | hold m=>
   have:=(zw h).2;injection this with h1;rw[Sum.inl.inj (Sum.inl.inj h1)]
  | _=>rwa[uf (zw h).1 ∅]
 | ring x n=>
  cases e with
  | ring y m=>
   have:=(zw h).2
   lia
  | _=>rwa[uf (zw h).1 ∅]
 | rise l v n=>
  cases e with
  | rise l' v' m=>
   have:=(zw h).2;injection this with h1 h2;injection h2 with h2 h3;injection h3 with h3;have e:(l:Int)=l':=Sum.inl.inj (Sum.inl.inj h1);rw[Sum.inl.inj (Sum.inl.inj h2),Sum.inl.inj (Sum.inl.inj h3),show l=l' by lia]
  | _=>rwa[uf (zw h).1 ∅]
 | row ps=>
  cases e with
  | row qs=>
   have:=(zw h).2;injection this with h1;rw[XN (Sum.inr.inj h1)]
  | _=>rwa[uf (zw h).1 ∅]
 | side ps=>
  cases e with
  | side qs=>
   have:=(zw h).2;injection this with h1;rw[XN (Sum.inr.inj h1)]
  | _=>rwa[uf (zw h).1 ∅]
 | again k p=>
  cases e with
  | again k' p'=>
   have:=(zw h).2;injection this with h1 h2;injection h2 with h2;have e:(p:Int)=p':=Sum.inl.inj (Sum.inl.inj h2);rw[Sum.inl.inj (Sum.inl.inj h1),show p=p' by lia]
  | _=>rwa[uf (zw h).1 ∅]
def DR(ps:L6):(ps.map iK).map kV=ps.map vN:=by rw[v6];rfl
def Eo{H:Hp}{a:Addr}{d:Dm}(h:lJ H a (gD d)):rF H a (kD d):=by
 cases d with
 | hold n=>rwa[_,h,.key (k:=Sum.inr "hold") (.key (k:=Sum.inl n) .nil)]
 | ring x n=>rwa[_,h,.key (k:=Sum.inr "ring") (.key (k:=Sum.inr x) (.key (k:=Sum.inl n) .nil))]
 | rise l v n=>rwa[_,h,.key (k:=Sum.inr "raise") (.key (k:=Sum.inl (l:Int)) (.key (k:=Sum.inl v) (.key (k:=Sum.inl n) .nil)))]
 | row ps=>let⟨b,c,e⟩:=h;rwa[_,c,.key (k:=Sum.inr "row") (.tup (by rw[DR];rwa[e]) .nil)]
 | side ps=>let⟨b,c,e⟩:=h;rwa[_,c,.key (k:=Sum.inr "side") (.tup (by rw[DR];rwa[e]) .nil)]
 | again k p=>rwa[_,h,.key (k:=Sum.inr "again") (.key (k:=Sum.inl k) (.key (k:=Sum.inl (p:Int)) .nil))]
noncomputable def mI(lx px:L8)(ns:L6):Fm->Dm
 | .hold n=>.hold n
 | .ring x n=>.ring x n
 | .rise x h n=>.rise (cu lx x) h n
 | .row qs=>.row (qs.map λx=>ns∘(cu px x))
 | .side qs=>.side (qs.map λx=>ns∘(cu px x))
 | .again k x=>.again k (ns∘(cu px x))
noncomputable def df(lx px:L8)(st:List Dm×L6)(p:Str×Fm):List Dm×L6:=
 let d:=mI lx px st.2 p.2
 if d∈st.1 then(st.1,st.2++[st.1.idxOf d])else(st.1++[d],st.2++[⇑st.1])
noncomputable def cj(lx px:L8)(ps:N1):List Dm×L6:=ps.foldl (df lx px) ([],[])
def qG(lx px:L8)(ps:N1)(p:Str×Fm):cj lx px (ps++[p])=df lx px (cj lx px ps) p:=by
 unfold cj;rw[foldl_append];rfl
structure zy(ks:List Dm)(ns:L6)(n:Nat):Prop where
 nd:ks.Nodup
 ln:⇑ns=n
 lk:⇑ks<=n
 lt:∀k∈ns,k<⇑ks
theorem wv(lx px:L8):∀(n:Nat) (ps:N1),⇑ps=n->zy (cj lx px ps).1 (cj lx px ps).2 n
 | 0,ps,h=>by
  rw[List.length_eq_zero_iff.mp h];rwa[nodup_nil,rfl,vb _,λk h=>nomatch h]
 | n+1,ps,h=>by
  obtain⟨b,p,rfl⟩:∃b p,ps=b++[p]:=#[ps.dropLast,ps.getLast (λz=>by rw[z]at h;cases h),(List.dropLast_concat_getLast _).symm]
  rw[vn,vS]at h;let⟨d,f,e,c⟩:=wv lx px n b ⋯;rw[qG];generalize cj lx px b=st at d f e c;unfold df;dsimp only;split
  .rename_i hd;erw[d,by simp_all,by show ⇑st.1<=n+1;lia,λk a=>?_];rcases vh.mp a with a | a
   .exact c k a
   .rw[vo.mp a];rwa[idxOf_lt_length_of_mem hd]
  .rename_i hd;erw[nodup_append.mpr #[d,by simp,λx g y i z=>hd (by simp_all)],by simp_all,by simp_all,λk a=>?_];show k<⇑(st.1++[_]);rw[vn,vS];rcases vh.mp a with a | a
   .have:=c k a;lia
   .rw[vo.mp a];lia
def hL(H:Hp)(xs:List NE)(ks:List Dm):Prop:=⇑xs=⇑ks/\∀(i:Nat) (d:Dm),ks[i]?⊂d->∃a,xs[i]?⊂(kD d,a,.int i)/\lJ H a (gD d)
def hL.dF{H H':Hp}{xs:List NE}{ks:List Dm}(e:hL H xs ks)(s:∀b xs,H b⊂.tup xs->H' b⊂.tup xs):hL H' xs ks:=#[e.1,λi d h=>let ⟨a,h1,h2⟩:=e.2 i d h;#[a,h1,h2.dF s]]
def hL.nat{H:Hp}{xs:List NE}{ks:List Dm}(e:hL H xs ks):∀p∈xs,rF H p.2.1 p.1:=λp g=>by
 let⟨i,f,c⟩:=mem_iff_getElem.mp g;have l:=e.1;let⟨a,b,d⟩:=e.2 i _ (vz ⋯);rw[vz f,c]at b;cases b;rwa[Eo d]
def hL.snoc{H:Hp}{xs:List NE}{ks:List Dm}(e:hL H xs ks){a:Addr}{d:Dm}(h:lJ H a (gD d)):hL H (xs++[(kD d,a,.int (⇑ks:Nat))]) (ks++[d]):=by
 have l:=e.1;erw[by simp_all,λi f b=>?_];rcases Nat.lt_or_ge i ⇑ks with z | z
 .rw[vB z]at b;let⟨c,j,k⟩:=e.2 i f b;rwa[c,by rw[vB ⋯];rwa[j],k]
 .rw[vC z]at b;have g:i=⇑ks:=by
   have:=(vx.mp b).1;rw[vS]at this;lia
  subst g;rw[ur]at b;cases b;rwa[a,by rw[<-l,vC (vb _),ur];rfl,h]
def hL.found{H:Hp}{xs:List NE}{ks:List Dm}{d:Dm}(e:hL H xs ks)(r:ks.Nodup) :
  (∀p,xs.find? (λp=>decide (p.1=kD d))⊂p->d∈ks/\p.2.2 = .int (ks.idxOf d:Nat))/\(xs.find? (λp=>decide (p.1=kD d))=none->d∉ks):=by
 have l:=e.1;erw[λp j=>?_,λq o=>?_]
 .have k:=List.find?_some j;have m:=List.mem_of_find?_eq_some j;let⟨i,f,c⟩:=mem_iff_getElem.mp m;have g:i<⇑ks:=⋯
  let⟨a,b,n⟩:=e.2 i _ (vz g);rw[vz f,c]at b;cases b;have h:ks[i]=d:=M6 (of_decide_eq_true k);erw[h▸getElem_mem g,?_];show V.int _=V.int _;rw[<-h,r.idxOf_getElem i g]
 .let⟨i,f,c⟩:=mem_iff_getElem.mp o;let⟨a,b,n⟩:=e.2 i _ (vz f);have:=List.find?_eq_none.mp q _ (vm b);rw[c]at this;rwa[this (vG rfl)]
noncomputable def gf(xs:L8)(ns:L6):List (Key×V):=(xs.zip ns).map λq=>(Sum.inr q.1,vN q.2)
def Xf{xs:L8}{a:L6}{x:Str}{n:Nat}(h:⇑xs=⇑a):gf (xs++[x]) (a++[n])=gf xs a++[(Sum.inr x,vN n)]:=by
 unfold gf;rw[List.zip_append h,vj];rfl
def HI{xs:L8}{a:L6}(h:⇑xs=⇑a):⇑(gf xs a)=⇑xs:=by
 unfold gf
 simp_all
def Xe{xs:L8}{a:L6}(h:⇑xs=⇑a):(gf xs a).map (·.1)=xs.map Sum.inr:=by
 unfold gf;rw[v6];show(xs.zip a).map (λq=>Sum.inr q.1)=_;rw[show(λq:Str×Nat=>(Sum.inr q.1:Key))=Function.comp Sum.inr Prod.fst from rfl,<-v6,List.map_fst_zip ⋯]
def j0(H:Hp)(as:L7)(ks:List Dm):Prop:=bX (λa d=>lJ H a (gD d)) as ks
inductive lH(vs:N2)(H:Hp)(Q:VK)(xk:XK):Prop
 | mk (b pl pp las pas ls) (ps:N1):vs=[.ref b]->cE H b pl pp las pas ls ps->dX ls ps->1<=⇑ps->(∀(t f:Addr) (fas:L7) (H':Hp),bU H H'->H' t⊂(.tup [.ref f,vN ((cj (bQ ls) (bQ ps) ps).2.getD (⇑ps-1) 0)])->H' f⊂(.lst (fas.map V.ref))->j0 H' fas (cj (bQ ls) (bQ ps) ps).1->Q (.ref t) H')->lH vs H Q xk
def Cp{xs:L8}{a:L6}(h:⇑xs=⇑a)(b:xs.Nodup){j:Nat}{x:Str}(e:xs[j]?⊂x):cX (gf xs a) (Sum.inr x)⊂(vN (a∘j)):=by
 have c:=(vx.mp e).1;erw[WY (j:=j) (by rw[Xe h];rwa[pairwise_map.mpr (b.imp λh e=>h (Sum.inr.inj e))]) ?_];unfold gf;rw[vv,List.getElem?_zip_eq_some.mpr (show xs[j]?⊂(x,a[j]).1/\a[j]?⊂(x,a[j]).2 from#[e,vz ⋯]),vy,vz ⋯];rfl
def D9{H:Hp}{d:Addr}{px:L8}{a:L6}{i:Nat}(hi:i<=⇑px)(h:⇑a=i)(c:px.Nodup)(e:H d⊂(.dK (gf (px.take i) a))){x:Str}{j:Nat}(f:j<i)(b:px[j]?⊂x):Itm H d (.str x) (vN (a∘(cu px x))):=by
 rw[jV c b];erw[.inr ?_];have g:=cY.k (k:=Sum.inr x) e;rw[Cp (j:=j) (by rw[vi];lia) (List.Nodup.sublist (take_sublist _ _) c) (by rw[List.getElem?_take,vd f];rwa[b])]at g;rwa[g]
def Ic{H:Hp}{d l:Addr}{ls:L4}{ps:N1}{e:L6}{i:Nat}{p:Str×Fm}(W:dX ls ps)(o:ps[i]?⊂p)(t:⇑e=i)(C:H d⊂(.dK (fZ (bQ ls))))(r:H l⊂(.dK (gf ((bQ ps).take i) e))) :
  mj H d l (gF p.2) (gD (mI (bQ ls) (bQ ps) e p.2)):=by
 have G:=(vx.mp o).1;have A:i<=⇑(bQ ps):=by rw[bQ,vt];lia
 let⟨q,B⟩:=W.f i p o;have b:∀(s:Bool) (a:L8),(∀x∈a,∃j,j<i/\(bQ ps)[j]?⊂x)->⇑a<=8->mj H d l (.many s (a.map V.str)) (.many s ((a.map λx=>e∘(cu (bQ ps) x)).map vN)):=λs a D F=>by
  erw[_,by rw[vt,vt,vt],λk x y u v=>?_,by simp_all,rfl];rw[vv]at u;let⟨z,w,rfl⟩:=vg.mp u;rw[vv,vv,w]at v;cases v;let⟨j,c,m⟩:=D z (vm w);rwa[D9 A t W.pn r c m]
 let⟨E,f⟩:=p;cases f with
 | hold n=>rfl
 | ring x n=>rfl
 | rise x h n=>
  let⟨j,c⟩:=W.r i E x h n o;erw[vN j,.inr ?_,?_]
  .have g:=cY.k (k:=Sum.inr x) C;rw[Yl W.ln c]at g;rwa[g]
  .show Gv.rise (.int (cu (bQ ls) x:Nat)) _ _=_;rw[jV W.ln c];rfl
 | row a=>rwa[b false a q B]
 | side a=>rwa[b true a q B]
 | again k x=>
  let⟨j,c,m⟩:=q x vq;rwa[_,D9 A t W.pn r c m,rfl]
def D0{xs:N2}{n:Nat}{v:V}(h:1<=n)(e:⇑xs=n)(a:xs[n-1]?⊂v):eZ xs (-1)⊂v:=by
 have:xs=xs.take (n-1)++[v]:=by
  rw[<-take_snoc a,show n-1+1=⇑xs by lia,v5]
 rw[this];rwa[Cu _ _]
def j0.of{H:Hp}{xs:List NE}{ks:List Dm}(e:hL H xs ks):j0 H (xs.map λq=>q.2.1) ks:=by
 erw[by rw[vt];rwa[e.1],λi a d h b=>?_];let⟨c,f,g⟩:=e.2 i d b
 simp_all
inductive Rc(ks:List Dm)(t:Nat):Nat->Prop
 | top:Rc ks t t
 | sub {y x:Nat}:Rc ks t y->x∈(ks.getD y (.hold 0)).ns->Rc ks t x
structure pC(ks:List Dm):Prop where
 lt:∀(i:Nat) (d:Dm),ks[i]?⊂d->∀j∈d.ns,j<i
 l8:∀d∈ks,⇑d.ns<=8
def pC.get{ks:List Dm}(D:pC ks){i j:Nat}(h:j∈(ks.getD i (.hold 0)).ns):j<i/\i<⇑ks:=by
 rw[vy]at h;cases e:ks[i]? with
 | none=>rw[e]at h;rwa[nomatch h]
 | some d=>rw[e]at h;rwa[D.lt i d e j h,(vx.mp e).1]
def Rc.le{ks:List Dm}{t x:Nat}(D:pC ks)(h:Rc ks t x):x<=t:=by
 induction h with
 | top=>rwa[vb _]
 | sub _ hm ih=>have:=(D.get hm).1;lia
def ET(lx px:L8)(a:L6)(f:Fm):(mI lx px a f).ns=f.ns.map λx=>a∘(cu px x):=by cases f<;>rfl
theorem El{ls:L4}{ps:N1}(W:dX ls ps):∀n,n<=⇑ps->pC (cj (bQ ls) (bQ ps) (ps.take n)).1
 | 0,_=>#[λi d h=>by simp[cj]at h,λd h=>by simp[cj]at h]
 | n+1,hn=>by
  have g:ps[n]?⊂ps[n]:=vz hn;let⟨f,e⟩:=El W n ⋯;have M:=wv (bQ ls) (bQ ps) n (ps.take n) (by rw[vi];lia);rw[take_snoc g,qG];generalize cj (bQ ls) (bQ ps) (ps.take n)=st at f e M;let⟨q,p⟩:=W.f n _ g;unfold df;dsimp only;split
  .exact#[f,e]
  .refine#[λi d h j b=>?_,λd a=>?_]
   .rcases Nat.lt_or_ge i ⇑st.1 with z | z
    .rw[vB z]at h;rwa[f i d h j b]
    .rw[vC z]at h;have l:i-⇑st.1=0:=by
      have:=(vx.mp h).1;rw[vS]at this;lia
     rw[l]at h;cases h;rw[ET]at b;let⟨x,o,rfl⟩:=vK.mp b;let⟨k,c,m⟩:=q x o;rw[jV W.pn m,vy,vz (by rw[M.ln];rwa[c])];have:=M.lt _ (getElem_mem (by rw[M.ln];rwa[c]):st.2[k]'(by rw[M.ln];rwa[c])∈st.2);show st.2[k]'_<i;lia
   .rcases vh.mp a with a | a
    .exact e d a
    .rw[vo.mp a,ET,vt];rwa[p]
noncomputable def lF(S:L6)(x:Nat):L6:=if x∈S then S else S++[x]
noncomputable def lz(S xs:L6):L6:=xs.foldl lF S
def Ii{S:L6}{x y:Nat}:y∈lF S x↔y∈S\/y=x:=by
 unfold lF;split
 .rename_i h;rwa[.inl,λz=>z.elim id λe=>e▸h]
 .simp
theorem Zg:∀{xs S:L6} {y:Nat},y∈lz S xs↔y∈S\/y∈xs
 | [],S,y=>by simp[lz]
 | x::xs,S,y=>by
  show y∈lz (lF S x) xs↔_;rw[Zg,Ii,mem_cons,or_assoc]
def Lr{S:L6}(c:S.Nodup)(x:Nat):(lF S x).Nodup:=by
 unfold lF;split
 .exact c
 .rename_i h;rwa[nodup_append.mpr #[c,by simp,λa d b e z=>h (by rw[<-vo.mp e,<-z];rwa[d])]]
def GF(S xs:L6)(x:Nat):lz S (xs++[x])=lF (lz S xs) x:=by
 unfold lz;rw[foldl_append];rfl
def KySet(kvs:List (Key×V))(S:L6):Prop:=kvs.map (·.1)=S.map iK/\S.Nodup
def AV{a b:Nat}(h:iK a=iK b):a=b:=by
 have:(a:Int)=b:=Sum.inl.inj h;lia
def KySet.mem{kvs:List (Key×V)}{S:L6}(h:KySet kvs S){x:Nat}:(cX kvs (iK x)).isSome=decide (x∈S):=by
 have e:iK x∈kvs.map (·.1)↔x∈S:=by
  rw[h.1];rwa[λz=>let ⟨y,hy,e⟩:=vK.mp z;(AV e)▸hy,λz=>vK.mpr #[x,z,rfl]]
 cases v:cX kvs (iK x)with
 | none=>rwa[(vH λz=>Le v (e.mpr z)).symm]
 | some y=>rwa[(vG (e.mp (LD v))).symm]
def KySet.put{kvs:List (Key×V)}{S:L6}(h:KySet kvs S)(x:Nat)(v:V):KySet (putK kvs (iK x) v) (lF S x):=by
 erw[?_,Lr h.2 x];have m:=h.mem (x:=x);unfold putK lF;rw[Zr,m];by_cases z:x∈S
 .rw[vG z,vd rfl,vd z,v6,<-h.1];refine map_congr_left λq j=>?_
  show(if q.1=iK x then(q.1,v)else q).1=q.1;split<;>rfl
 .rw[vH z,vc vF,vc z,vj,vj,h.1];rfl
def KySet.len{kvs:List (Key×V)}{S:L6}(h:KySet kvs S):⇑kvs=⇑S:=by
 have:=congrArg List.length h.1
 simp_all
theorem DP{d:Type}[DecidableEq d]:∀{l m:List d},l.Nodup->(∀x∈l,x∈m)->⇑l<=⇑m
 | [],m,_,_=>va _
 | a::l,m,nd,h=>by
  rw[uo]at nd;have b:=h a vq;have:=DP (l:=l) (m:=m.erase a) nd.2 λx c=>(List.mem_erase_of_ne (λz:x=a=>nd.1 (by rw[<-z];rwa[c]))).mpr (h x (vp _ c))
  rw[List.length_erase_of_mem b]at this;have:=List.length_pos_of_mem b;rw[vQ];lia
def XZ{S:L6}{n:Nat}(b:S.Nodup)(h:∀x∈S,x<n):⇑S<=n:=by
 have:=DP (m:=List.range n) b λx a=>v4.mpr (h x a)
 simp_all
structure jk(ks:List Dm)(t i:Nat)(S:L6):Prop where
 rc:∀x∈S,Rc ks t x
 tp:t∈S
 cl:∀y∈S,t<y+i->∀j∈(ks.getD y (.hold 0)).ns,j∈S
def jk.all{ks:List Dm}{t:Nat}{S:L6}(c:jk ks t (t+1) S){x:Nat}:x∈S↔Rc ks t x:=by
 erw[c.rc x,λh=>?_]
 induction h with
 | top=>rwa[c.tp]
 | sub _ hm ih=>rwa[c.cl _ ih ⋯ _ hm]
def jk.yes{ks:List Dm}{t i y:Nat}{S:L6}(D:pC ks)(c:jk ks t i S)(d:y∈S)(e:y+i=t):jk ks t (i+1) (lz S (ks.getD y (.hold 0)).ns):=by
 erw[λx b=>?_,Zg.mpr (.inl c.tp),λz f k j a=>?_]
 .rcases Zg.mp b with h | h
  .exact c.rc x h
  .exact .sub (c.rc y d) h
 .rcases Zg.mp f with h | h
  .by_cases g:z=y
   .subst g;rwa[Zg.mpr (.inr a)]
   .exact Zg.mpr (.inl (c.cl z h ⋯ j a))
  .have:=(D.get h).1;lia
def jk.no{ks:List Dm}{t i y:Nat}{S:L6}(c:jk ks t i S)(d:y∉S)(e:y+i=t):jk ks t (i+1) S:=
 #[c.rc,c.tp,λz a f j b=>c.cl z a (by have:z≠y:=λe=>d (e▸a);lia) j b]
theorem Dz:∀{ms:L5},(∀m∈ms,0<=m)->∃a:L6,ms=a.map (λn:Nat=>(n:Int))
 | [],_=>#[[],rfl]
 | m::ms,h=>by
  let⟨a,e⟩:=Dz (ms:=ms) λx b=>h x (vp _ b)
  have:=h m vq;rwa[m.toNat::a,by rw[v9,<-e,show((m.toNat:Nat):Int)=m by lia]]
def FA{ms:L5}{S:L6}(p:ms.Perm (S.map λn:Nat=>(n:Int)))(o:ms.Pairwise (·<=·))(i:S.Nodup):∃a:L6,ms.map V.int=a.map vN/\a.Pairwise (· < ·)/\∀x,x∈a↔x∈S:=by
 let⟨a,rfl⟩:=Dz (ms:=ms) λm g=>by
  let⟨n,q,rfl⟩:=vK.mp (p.mem_iff.mp g);rwa[Int.natCast_nonneg n]
 have c:∀x,x∈a↔x∈S:=λx=>by
  constructor
  .intro h;let⟨y,b,e⟩:=vK.mp (p.mem_iff.mp (vK.mpr #[x,h,rfl]));have:y=x:=⋯
   rwa[this▸b]
  .intro h;let⟨y,b,e⟩:=vK.mp (p.mem_iff.mpr (vK.mpr #[x,h,rfl]));have:y=x:=⋯
   rwa[this▸b]
 have d:(S.map λn:Nat=>(n:Int)).Nodup:=pairwise_map.mpr (i.imp λh e=>h ⋯);have f:=pairwise_map.mp (p.nodup_iff.mpr d);erw[a,by rw[v6];rfl,?_,c];rwa[((pairwise_map.mp o).and f).imp λ⟨j,k⟩=>⋯]
inductive lG(vs:N2)(H:Hp)(Q:VK)(xk:XK):Prop
 | mk (f) (fas:L7) (ks:List Dm) (t):vs=[.ref f,vN t]->H f⊂(.lst (fas.map V.ref))->j0 H fas ks->pC ks->t<⇑ks->⇑ks<=61->(∀(l:Addr) (ms:L6) (H':Hp),bU H H'->H l=none->H' l⊂(.lst (ms.map vN))->ms.Pairwise (· < ·)->(∀x,x∈ms↔Rc ks t x)->Q (.ref l) H')->lG vs H Q xk
noncomputable def r8(P:Nat->Nat):Dm->Dm
 | .row ps=>.row (ps.map P)
 | .side ps=>.side (ps.map P)
 | .again k p=>.again k (P p)
 | d=>d
noncomputable def du(ks:List Dm)(ms:L6):List Dm:=ms.map λk=>r8 (λn=>ms.idxOf n) (ks.getD k (.hold 0))
def rD(ks:List Dm)(n:Nat):Prop:=∀d∈ks,∀l h b,d = .rise l h b->l<n
theorem EJ{ls:L4}{ps:N1}(W:dX ls ps):∀n,n<=⇑ps->rD (cj (bQ ls) (bQ ps) (ps.take n)).1 ⇑ls
 | 0,_=>λd h=>by simp[cj]at h
 | n+1,hn=>by
  have g:ps[n]?⊂ps[n]:=vz hn;have i:=EJ W n ⋯;rw[take_snoc g,qG];generalize cj (bQ ls) (bQ ps) (ps.take n)=st at i;unfold df;dsimp only;split
  .exact i
  .intro d a l h b e;rcases vh.mp a with a | a
   .exact i d a l h b e
   .rw[vo.mp a]at e;generalize r:ps[n]=p at e g;let⟨q,f⟩:=p;cases f with
    | rise x v m=>
     let⟨j,o⟩:=W.r n q x v m g;have c:(Dm.rise (cu (bQ ls) x) v m) = .rise l h b:=e;injection c with c;rw[<-c,jV W.ln o];have:=(vx.mp o).1;rw[bQ,vt]at this;rwa[this]
    | hold n=>cases e
    | ring x n=>cases e
    | row qs=>cases e
    | side qs=>cases e
    | again k x=>cases e
noncomputable def hV(ms:L6):List (Key×V):=ms.zipIdx.map λp=>(iK p.1,vN p.2)
def GA(ms:L6)(m:Nat):hV (ms++[m])=hV ms++[(iK m,vN ⇑ms)]:=by
 unfold hV;rw[List.zipIdx_append,vj];simp
def HF(ms:L6):⇑(hV ms)=⇑ms:=by simp[hV]
def Xc(ms:L6):(hV ms).map (·.1)=ms.map iK:=by
 unfold hV;rw[v6];have e:∀(k:Nat) (a:L6),(a.zipIdx k).map (Function.comp (λx=>x.1) λp:Nat×Nat=>(iK p.1,vN p.2))=a.map iK:=λk a=>by
  induction a generalizing k with
  | nil=>rfl
  | cons x r ih=>simp_all
 rwa[e 0 ms]
def HG{ms:L6}(a:ms.Nodup){m:Nat}(h:m∈ms):cX (hV ms) (iK m)⊂(vN (ms.idxOf m)):=by
 erw[WY (j:=ms.idxOf m) (by rw[Xc];rwa[pairwise_map.mpr (a.imp λh e=>h (AV e))]) ?_];unfold hV;have b:=idxOf_lt_length_of_mem h
 simp_all
def By{ms:L6}(h:ms.Pairwise (· < ·)):ms.Nodup:=h.imp λh=>vE h
def MJ{H:Hp}{l an:Addr}{n:Nat}{ms:L6}{d:Dm}(o:H l⊂(.lst ((List.range n).map vN)))(m:H an⊂(.dK (hV ms)))(C:ms.Nodup)(t:∀k h b,d = .rise k h b->k<n)(v:∀j∈d.ns,j∈ms)(e:⇑d.ns<=8) :
  mj H l an (gD d) (gD (r8 (λn=>ms.idxOf n) d)):=by
 have i:∀j∈d.ns,Itm H an (vN j) (vN (ms.idxOf j)):=λj q=>by
  erw[.inr ?_];have g:=cY.k (k:=iK j) m;rw[HG C (v j q)]at g;rwa[g]
 have c:∀(s:Bool) (a:L6),(∀j∈a,j∈d.ns)->⇑a<=8->mj H l an (.many s (a.map vN)) (.many s ((a.map λn=>ms.idxOf n).map vN)):=λs a w e=>by
  erw[_,by simp_all,λk x y A f=>?_,by simp_all,rfl];let⟨z,B,rfl,u⟩:=tJ A;rw[vv,vv,B]at f;cases f;rwa[i z (w z u)]
 cases d with
 | hold n=>rfl
 | ring x n=>rfl
 | rise k h b=>
  have r:=t k h b rfl;rwa[.int (k:Nat),.inl #[_,_,o,rfl,L2.jS (j:=k) (by rw[vv,List.getElem?_range r];rfl)],rfl]
 | row a=>rwa[c false a (λj h=>h) e]
 | side a=>rwa[c true a (λj h=>h) e]
 | again k p=>rwa[_,i p vq,rfl]
noncomputable def hY(ls:L4)(ps:N1):Nat:=(cj (bQ ls) (bQ ps) ps).2.getD (⇑ps-1) 0
noncomputable def cR(ls:L4)(ps:N1):List Dm:=(cj (bQ ls) (bQ ps) ps).1
def Kept(ls:L4)(ps:N1)(ms:L6):Prop:=ms.Pairwise (· < ·)/\∀x,x∈ms↔Rc (cR ls ps) (hY ls ps) x
inductive iE(vs:N2)(H:Hp)(Q:VK)(xk:XK):Prop
 | mk (b pl pp) (las:L7) (pas ls) (ps:N1):vs=[.ref b]->cE H b pl pp las pas ls ps->dX ls ps->1<=⇑ps->(∀(t l f:Addr) (das:L7) (ms:L6) (H':Hp),bU H H'->H' t⊂(.tup [.ref l,.ref f])->H' l⊂(.lst (las.map V.ref))->H' f⊂(.lst (das.map V.ref))->H l=none->H f=none->l≠f->j0 H' das (du (cR ls ps) ms)->Kept ls ps ms->Q (.ref t) H')->iE vs H Q xk
structure fX(ls:L4)(ps:N1):Prop where
 dw:pC (cR ls ps)
 lm:rD (cR ls ps) ⇑ls
 nd:(cR ls ps).Nodup
 rR:⇑(cR ls ps)<=61
 tp:hY ls ps<⇑(cR ls ps)
def XV{ls:L4}{ps:N1}(W:dX ls ps)(a:1<=⇑ps):fX ls ps:=by
 have M:=wv (bQ ls) (bQ ps) ⇑ps ps rfl;have d:=El W ⇑ps (vb _);have l:=EJ W ⇑ps (vb _);rw[v5]at d l;erw[d,l,M.nd,vW M.lk W.nF,M.lt _ ?_];unfold hY;rw[vy,vz (by rw[M.ln];lia)];rwa[getElem_mem _]
def Kept.lt{ls:L4}{ps:N1}{ms:L6}(K:Kept ls ps ms)(O:fX ls ps){x:Nat}(h:x∈ms):x<=hY ls ps:=((K.2 x).mp h).le O.dw
def Kept.len{ls:L4}{ps:N1}{ms:L6}(K:Kept ls ps ms)(O:fX ls ps):⇑ms<=61:=by
 have:=XZ (n:=hY ls ps+1) (By K.1) λx a=>by have:=K.lt O a;lia
 have:=O.tp;have:=O.rR;lia
def Kept.sub{ls:L4}{ps:N1}{ms:L6}(K:Kept ls ps ms){x j:Nat}(h:x∈ms)(a:j∈((cR ls ps).getD x (.hold 0)).ns):j∈ms:=(K.2 j).mpr (.sub ((K.2 x).mp h) a)
def Mr{lx px:L8}{st:List Dm×L6}{p:Str×Fm}:∃j,(df lx px st p).2=st.2++[j]/\(df lx px st p).1[j]?⊂(mI lx px st.2 p.2)/\∀m,m<j->(df lx px st p).1[m]?≠some (mI lx px st.2 p.2):=by
 unfold df;dsimp only;split
 .rename_i hd;refine#[_,rfl,?_,λm a e=>?_]
  .have b:=idxOf_lt_length_of_mem hd;rw[vz b,getElem_idxOf b]
  .let⟨d,c⟩:=vx.mp e;have:=List.not_of_lt_findIdx (p:=(· == mI lx px st.2 p.2)) (xs:=st.1) a;rw[c]at this;simp at this
 .rename_i hd;erw[_,rfl,by rw[vC (vb _),ur];rfl,λm a e=>hd ?_];rw[vB a]at e;rwa[vm e]
def AW{ms:L6}{x:Nat}(h:x∈ms):ms[ms.idxOf x]?⊂x/\∀m,m<ms.idxOf x->ms[m]?≠some x:=by
 erw[?_,λm c e=>?_]
 .have a:=idxOf_lt_length_of_mem h;rw[vz a,getElem_idxOf a]
 .let⟨d,b⟩:=vx.mp e;have:=List.not_of_lt_findIdx (p:=(· == x)) (xs:=ms) c;rw[b]at this;simp at this
def vU(P:Nat->Nat)(d:Dm):(r8 P d).ns=d.ns.map P:=by cases d<;>rfl
def IX{ls:L4}{ps:N1}{ms:L6}(O:fX ls ps)(K:Kept ls ps ms):∀d∈du (cR ls ps) ms,⇑d.ns<=8:=λd a=>by
 let⟨k,b,rfl⟩:=vK.mp a;rw[vU,vt];have:=K.lt O b;have:=O.tp;rw[vy,vz ⋯];rwa[O.dw.l8 _ (getElem_mem _)]
end Rm
namespace L2
open PySem PySem.Spec PyProof.Rows
def Nl{X:Cx}(Z:X.A.units+64<cLine):fH X (compareOp .Eq) (λx y H Q=>∃(p q f g i k:Addr) (as bs:L7),x = .ref p/\y = .ref q/\cw X.K H p [.ref f,.ref g]/\cw X.K H q [.ref i,.ref k]/\bV X.K H f (as.map V.ref)/\bV X.K H i (as.map V.ref)/\bV X.K H g (bs.map V.ref)/\bV X.K H k (bs.map V.ref)/\f≠i/\g≠k/\Q (.bl true) H):=by
 intro t s σ H x y v u Q I R S h;let⟨p,q',f,g,i,k,as,bs,rfl,rfl,B,C,w,D,z,E,F,G,q⟩:=h;cases R;cases S;let⟨ip,O,o,_⟩:=I.tuple B;let⟨iq,P,r,_⟩:=I.tuple C;have W:=Qv (as:=[f,g]) O;have Y:=Qv (as:=[i,k]) P;subst W;subst Y;have c:∀{a b:Addr} {l:L7},bV X.K H a (l.map V.ref)->bV X.K H b (l.map V.ref)->a≠b->SeqAt.EqAt X.A.in1 s (.ref a) (.ref b) true:=λ{a b l} d m J=>by
  let⟨ia,M,K,_⟩:=I.list d;let⟨ib,N,L,_⟩:=I.list m;have T:=Qv M;have U:=Qv N;subst T;subst U;erw[.of_refs J ?_];have:=SeqAt.RcAt.lists (A:=X.A.in1) (s:=s) (e:=λ_=>true) K.isList L.isList rfl (by show X.A.units+1<cLine;lia) λj d m=>SeqAt.EqAt.same _
  rw[show∀n:Nat,((List.range n).all λ_=>true)=true from λn=>all_eq_true.mpr λ_ _=>rfl]at this;rwa[this]
 erw[SeqAt.eq_tupleAt (e:=λ_=>true) o r ⋯ (λj d m=>?_) #[.bl true,H,I,rfl,q]];have d:j<2:=d
 match j,d with
 | 0,_=>rwa[c w D F]
 | 1,_=>rwa[c z E G]
end L2
namespace Rm
open PySem PySem.Spec PyProof.Rows L2
noncomputable def hZ(n:Nat):Str:=if n<26 then⟨#[97+n]⟩else⟨[97+n/26,97+n%26].toArray⟩
def CW:Sp:=λvs H Q q=>∃n:Nat,vs=[.int (n:Nat)]/\n<676/\Q (.str (hZ n)) H
noncomputable def pI(lx:L8):Dm->Fm
 | .hold n=>.hold n
 | .ring x n=>.ring x n
 | .rise l h n=>.rise (lx.getD l ⟨#[]⟩) h n
 | .row ps=>.row (ps.map hZ)
 | .side ps=>.side (ps.map hZ)
 | .again k p=>.again k (hZ p)
noncomputable def fI(ls:L4)(ks:List Dm):N1:=(List.range ⇑ks).map λi=>(hZ i,pI (bQ ls) (ks.getD i (.hold 0)))
def Zz(ls:L4)(ks:List Dm):⇑(fI ls ks)=⇑ks:=by unfold fI;rw[vt,length_range]
def AJ{ls:L4}{ks:List Dm}{i:Nat}{d:Dm}(h:ks[i]?⊂d):(fI ls ks)[i]?⊂(hZ i,pI (bQ ls) d):=by
 unfold fI;rw[vv,List.getElem?_range (vx.mp h).1];show some (hZ i,pI (bQ ls) (ks.getD i _))=_;rw[vy,h];rfl
structure mQ(ls:L4)(ks:List Dm):Prop where
 dw:pC ks
 lm:rD ks ⇑ls
 rR:⇑ks<=61
 l8:⇑ls<=8
def LL{H:Hp}{l p:Addr}{ls:L4}{d:Dm}{n:Nat}(o:H l⊂(.lst ((bQ ls).map V.str)))(ep:H p⊂(.lst ((List.range n).map λi=>V.str (hZ i))))(t:∀k h b,d = .rise k h b->k<⇑ls)(v:∀j∈d.ns,j<n)(e:⇑d.ns<=8) :
  mj H l p (gD d) (gF (pI (bQ ls) d)):=by
 have m:∀j∈d.ns,Itm H p (vN j) (.str (hZ j)):=λj q=>.inl #[_,_,ep,rfl,L2.jS (j:=j) (by rw[vv,List.getElem?_range (v j q)];rfl)]
 have c:∀(s:Bool) (a:L6),(∀j∈a,j∈d.ns)->⇑a<=8->mj H l p (.many s (a.map vN)) (.many s ((a.map hZ).map V.str)):=λs a w e=>by
  erw[_,by simp_all,λk x y A g=>?_,by simp_all,rfl];let⟨z,B,rfl,u⟩:=tJ A;rw[vv,vv,B]at g;cases g;rwa[m z (w z u)]
 cases d with
 | hold n=>rfl
 | ring x n=>rfl
 | rise k h b=>
  have r:=t k h b rfl;have f:k<⇑(bQ ls):=by rw[bQ,vt];rwa[r]
  erw[.str ((bQ ls).getD k ⟨#[]⟩),.inl #[_,_,o,rfl,L2.jS (j:=k) ?_],rfl];rw[vv,vy,vz f];rfl
 | row a=>rwa[c false a (λj h=>h) e]
 | side a=>rwa[c true a (λj h=>h) e]
 | again k p=>rwa[_,m p vq,rfl]
inductive gX(vs:N2)(H:Hp)(Q:VK)(xk:XK):Prop
 | mk (bx l f) (las das:L7) (ls ks):vs=[.ref bx]->H bx⊂(.tup [.ref l,.ref f])->H l⊂(.lst (las.map V.ref))->bX (ft H) las ls->H f⊂(.lst (das.map V.ref))->j0 H das ks->mQ ls ks->(∀(b pl pp:Addr) (pas:L7) (H':Hp),bU H H'->cE H' b pl pp las pas ls (fI ls ks)->H pl=none->H pp=none->pl≠pp->Q (.ref b) H')->gX vs H Q xk
def MB{ms:L6}(h:ms.Pairwise (· < ·)){i n m:Nat}(hi:ms[i]?⊂m)(f:n∈ms)(d:n<m):ms.idxOf n<i:=by
 have b:=idxOf_lt_length_of_mem f;have e:=getElem_idxOf b;let⟨c,a⟩:=vx.mp hi;rcases Nat.lt_or_ge (ms.idxOf n) i with z | z
 .exact z
 .rcases Nat.lt_or_ge i (ms.idxOf n)with w | w
  .have:=pairwise_iff_getElem.mp h i _ c b w;rw[a,e]at this;lia
  .have:i=ms.idxOf n:=⋯
   subst this;rw[e]at a;lia
def XT{ks:List Dm}{ms:L6}{i m:Nat}(h:ms[i]?⊂m):(du ks ms)[i]?⊂(r8 (λn=>ms.idxOf n) (ks.getD m (.hold 0))):=by
 unfold du;rw[vv,h];rfl
def Wx(ks:List Dm)(ms:L6):⇑(du ks ms)=⇑ms:=vt _
def Dp{ls:L4}{ps:N1}{ms:L6}(O:fX ls ps)(r:⇑ls<=8)(K:Kept ls ps ms):mQ ls (du (cR ls ps) ms):=by
 erw[#[λi d c j g=>?_,IX O K],λd c l h b e=>?_,by rw[Wx];rwa[K.len O],r]
 .have f:=(vx.mp c).1;rw[Wx]at f;have m:ms[i]?⊂ms[i]:=vz f;rw[XT m]at c;cases c;rw[vU]at g;let⟨n,o,rfl⟩:=vK.mp g;rwa[MB K.1 m (K.sub (getElem_mem f) o) (O.dw.get o).1]
 .let⟨k,q,rfl⟩:=vK.mp c;have:=K.lt O q;have:=O.tp;have p:(cR ls ps).getD k (.hold 0)=(cR ls ps)[k]:=by rw[vy,vz ⋯];rfl
  rw[p]at e;have a:(cR ls ps)[k]∈cR ls ps:=getElem_mem _;generalize(cR ls ps)[k]=d' at e a;erw[O.lm d' a l h b ?_];cases d'<;>first | exact e | cases e
def AI(lx:L8)(d:Dm):(pI lx d).ns=d.ns.map hZ:=by cases d<;>rfl
def Rc.inv{ks:List Dm}{t x:Nat}(h:Rc ks t x):x=t\/∃y,Rc ks t y/\x∈(ks.getD y (.hold 0)).ns:=by
 cases h with
 | top=>rwa[.inl rfl]
 | sub h1 h2=>rwa[.inr #[_,h1,h2]]
section
variable{ls:L4}{ps:N1}{ms:L6}
def Kept.refs(K:Kept ls ps ms)(O:fX ls ps){x:Nat}{d:Dm}(a:x∈ms)(b:(cR ls ps)[x]?⊂d):∀j∈d.ns,j∈ms:=λj c=>K.sub a (by simp_all)
def Kept.named(K:Kept ls ps ms)(O:fX ls ps):(∃c,ms[c]?⊂(hY ls ps)/\c+1=⇑ms)/\∀j,j+1<⇑ms->∃(i:Nat) (d:Dm),(du (cR ls ps) ms)[i]?⊂d/\j∈d.ns:=by
 have g:hY ls ps∈ms:=(K.2 _).mpr .top;have a:ms.idxOf (hY ls ps)+1=⇑ms:=by
  have f:=idxOf_lt_length_of_mem g;have h:=getElem_idxOf f;rcases Nat.lt_or_ge (ms.idxOf (hY ls ps)+1) ⇑ms with z | z
  .have:=pairwise_iff_getElem.mp K.1 (ms.idxOf (hY ls ps)) (ms.idxOf (hY ls ps)+1) f z ⋯;have:=K.lt O (getElem_mem z);rw[h]at *;lia
  .lia
 erw[#[_,(AW g).1,a],λj p=>?_];have k:ms[j]?⊂ms[j]:=vz ⋯;have l:ms[j]∈ms:=getElem_mem _;have b:ms.idxOf ms[j]=j:=(By K.1).idxOf_getElem j ⋯;rcases((K.2 _).mp l).inv with e | ⟨y,n,m⟩
 .rw[e]at b;lia
 .have o:=(K.2 y).mpr n;erw[_,_,XT (AW o).1,?_];rw[vU];rwa[vK.mpr #[_,m,b]]
end
def Lb{lx px:L8}{st:List Dm×L6}{p:Str×Fm}:∃r,(df lx px st p).1=st.1++r:=by
 unfold df;dsimp only;split
 .exact#[[],(append_nil _).symm]
 .exact#[_,rfl]
theorem Em(lx px:L8)(ps:N1)(n:Nat):∀k,∃r,(cj lx px (ps.take (n+k))).1=(cj lx px (ps.take n)).1++r
 | 0=>#[[],(append_nil _).symm]
 | k+1=>by
  let⟨r,h⟩:=Em lx px ps n k;rcases Nat.lt_or_ge (n+k) ⇑ps with z | z
  .rw[show n+(k+1)=(n+k)+1 by lia,take_snoc (vz z),qG];let⟨b,a⟩:=Lb (lx:=lx) (px:=px) (st:=cj lx px (ps.take (n+k))) (p:=ps[n+k])
   simp_all
  .have e:ps.take (n+(k+1))=ps.take (n+k):=by rw[take_of_length_le ⋯,take_of_length_le z]
   rw[e];rwa[r,h]
def Mw{ls:L4}{ps:N1}{n x:Nat}{d:Dm}(h:(cj (bQ ls) (bQ ps) (ps.take n)).1[x]?⊂d):(cR ls ps)[x]?⊂d:=by
 let⟨r,e⟩:=Em (bQ ls) (bQ ps) ps n ⇑ps;rw[take_of_length_le ⋯]at e;unfold cR;rw[e,vB (vx.mp h).1];rwa[h]
def WV{lx px:L8}{st:List Dm×L6}{p:Str×Fm}:∃j,(df lx px st p).2=st.2++[j]/\(df lx px st p).1[j]?⊂(mI lx px st.2 p.2)/\((j<⇑st.1/\(df lx px st p).1=st.1)\/(j=⇑st.1/\(df lx px st p).1.length=⇑st.1+1)):=by
 let⟨j,a,b,q⟩:=Mr (lx:=lx) (px:=px) (st:=st) (p:=p);erw[j,a,b,?_];unfold df at a|-;dsimp only at a|-;split
 .rename_i hd;rw[vd hd]at a;have:st.1.idxOf (mI lx px st.2 p.2)=j:=by
   have:=List.append_cancel_left a;injection this
  rwa[.inl #[this▸idxOf_lt_length_of_mem hd,rfl]]
 simp_all
def iu(R:Str->Str->Prop)(p q:Fm):Prop:=match p with
 | .row ps=>∃qs,q = .row qs/\⇑ps=⇑qs/\∀(i:Nat) (x y:Str),ps[i]?⊂x->qs[i]?⊂y->R x y
 | .side ps=>∃qs,q = .side qs/\⇑ps=⇑qs/\∀(i:Nat) (x y:Str),ps[i]?⊂x->qs[i]?⊂y->R x y
 | .again k x=>∃y,q = .again k y/\R x y
 | p=>q=p
def iu.rise{R:Str->Str->Prop}{p:Fm}{x:Str}{a b:Int}(h:iu R p (.rise x a b)):p = .rise x a b:=by
 cases p with
 | row ps=>let⟨q,e,q⟩:=h;cases e
 | side ps=>let⟨q,e,q⟩:=h;cases e
 | again k y=>let⟨q,e,q⟩:=h;cases e
 | _=>rwa[h.symm]
def cU.dF{H H':Hp}{a:Addr}{p:Str×Fm}(s:∀b xs,H b⊂.tup xs->H' b⊂.tup xs)(h:cU H a p):cU H' a p:=by
 let⟨b,c,d⟩:=h;rwa[b,s _ _ c,Wr.mpr (lJ.dF s (Wr.mp d))]
def Lu{i j:Nat}(hi:i<676)(a:j<676)(h:hZ i=hZ j):i=j:=by
 unfold hZ at h;split at h<;>split at h<;>(injection h with h;simp only[Array.mk.injEq,List.cons.injEq,reduceCtorEq,and_true,and_false,false_and]at h)<;>lia
def Eu(ls:L4)(ks:List Dm):bQ (fI ls ks)=(List.range ⇑ks).map hZ:=by
 unfold bQ fI;rw[v6];rfl
section
variable{ls:L4}{ks:List Dm}
def EH(B:mQ ls ks):(bQ (fI ls ks)).Nodup:=by
 rw[Eu];erw[pairwise_map.mpr (List.Pairwise.imp_of_mem (λ{a b} d f c e=>c (Lu ?_ ?_ e)) (nodup_range (n:=⇑ks)))]
 .have:=v4.mp d;have:=B.rR;lia
 .have:=v4.mp f;have:=B.rR;lia
def EI{j:Nat}(h:j<⇑ks):(bQ (fI ls ks))[j]?⊂(hZ j):=by
 rw[Eu,vv,List.getElem?_range h];rfl
def MV(B:mQ ls ks){j:Nat}(h:j<⇑ks):cu (bQ (fI ls ks)) (hZ j)=j:=jV (EH B) (EI h)
def NS(B:mQ ls ks)(k:(bQ ls).Nodup):dX ls (fI ls ks):=by
 erw[k,B.l8,EH B,by rw[Zz];rwa[B.rR],λi p a=>?_,λi y x h n a=>?_]
 all_goals
  have d:=(vx.mp a).1;rw[Zz]at d;have c:ks[i]?⊂ks[i]:=vz d;rw[AJ c]at a
 .cases a;refine#[λx f=>?_,?_]
  .rw[AI]at f;let⟨j,g,rfl⟩:=vK.mp f;have:=B.dw.lt i _ c j g;rwa[j,this,EI ⋯]
  .show(pI _ _).ns.length<=8;rw[AI,vt];rwa[B.dw.l8 _ (getElem_mem _)]
 .injection a with a;injection a with _ a;cases e:ks[i]with
  | rise l v b=>
   rw[e]at a;injection a with h1;have m:=B.lm _ (vm c) l v b e;rwa[l,by rw[<-h1,vy,vz (by unfold bQ;simp_all)];rfl]
  | _=>rw[e]at a;cases a
end
theorem DE(lx px:L8)(ps:N1)(n:Nat):∀k,∃r,(cj lx px (ps.take (n+k))).2=(cj lx px (ps.take n)).2++r
 | 0=>#[[],(append_nil _).symm]
 | k+1=>by
  let⟨r,h⟩:=DE lx px ps n k;rcases Nat.lt_or_ge (n+k) ⇑ps with z | z
  .rw[show n+(k+1)=(n+k)+1 by lia,take_snoc (vz z),qG];let⟨j,a,q⟩:=WV (lx:=lx) (px:=px) (st:=cj lx px (ps.take (n+k))) (p:=ps[n+k])
   simp_all
  .have e:ps.take (n+(k+1))=ps.take (n+k):=by rw[take_of_length_le ⋯,take_of_length_le z]
   rw[e];rwa[r,h]
noncomputable def numOf(ls:L4)(ps:N1)(i:Nat):Nat:=(cj (bQ ls) (bQ ps) ps).2.getD i 0
section
variable{ls:L4}{ps:N1}{ms:L6}
def A5{n i:Nat}(a:n<=⇑ps)(h:i<n):(cj (bQ ls) (bQ ps) (ps.take n)).2.getD i 0=numOf ls ps i:=by
 let⟨r,e⟩:=DE (bQ ls) (bQ ps) ps n ⇑ps;have M:=wv (bQ ls) (bQ ps) n (ps.take n) (by rw[vi];lia);rw[take_of_length_le ⋯]at e;unfold numOf;rw[e,vy,vy,vB (by rw[M.ln];rwa[h])]
def GQ(W:dX ls ps){i:Nat}{p:Str×Fm}(b:ps[i]?⊂p):(cR ls ps)[numOf ls ps i]?⊂(mI (bQ ls) (bQ ps) (cj (bQ ls) (bQ ps) ps).2 p.2):=by
 have o:=(vx.mp b).1;have M1:=wv (bQ ls) (bQ ps) i (ps.take i) (by rw[vi];lia);have h:cj (bQ ls) (bQ ps) (ps.take (i+1))=df (bQ ls) (bQ ps) (cj (bQ ls) (bQ ps) (ps.take i)) p:=by rw[take_snoc b,qG]
 let⟨j,c,e,q⟩:=WV (lx:=bQ ls) (px:=bQ ps) (st:=cj (bQ ls) (bQ ps) (ps.take i)) (p:=p);rw[<-h]at c e;have g:numOf ls ps i=j:=by
  rw[<-A5 (n:=i+1) ⋯ ⋯,c];have:=getD_last (l:=(cj (bQ ls) (bQ ps) (ps.take i)).2) (x:=j) (d:=0);rw[M1.ln]at this;rwa[this]
 rw[g];have:=Mw e;rw[this];have a:∀x∈p.2.ns,(cj (bQ ls) (bQ ps) (ps.take i)).2.getD (cu (bQ ps) x) 0=(cj (bQ ls) (bQ ps) ps).2.getD (cu (bQ ps) x) 0:=λx m=>A5 ⋯ (W.cQ b (vK.mpr #[x,m,rfl]))
 generalize p.2=f at a;cases f with
 | row qs=>rwa[congrArg (λz=>some (Dm.row z)) (map_congr_left a)]
 | side qs=>rwa[congrArg (λz=>some (Dm.side z)) (map_congr_left a)]
 | again k x=>rwa[congrArg (λz=>some (Dm.again k z)) (a x vq)]
 | _=>rfl
structure pB(ps qs:N1)(C:Nat->Nat->Prop)(g:Nat->Nat):Prop where
 lt:∀i k,C i k->i<⇑ps/\k<⇑qs
 ex:∀k,k<⇑qs->∃i,C i k
 top:C (⇑ps-1) (⇑qs-1)
 f:∀(i k:Nat) (p q:Str×Fm),C i k->ps[i]?⊂p->qs[k]?⊂q->iu (λ_ _=>True) p.2 q.2/\cM qs q.2=(cM ps p.2).map g/\∀j∈cM ps p.2,j<i/\C j (g j)
theorem Ea(n:Nat):∀(i:Nat),i<=n->∀(x:Nat),x<(cj (bQ ls) (bQ ps) (ps.take i)).1.length->i<=⇑ps->∃j,j<i/\numOf ls ps j=x
 | 0,_,x,h,_=>by simp[cj]at h
 | i+1,hn,x,h,hi=>by
  have g:ps[i]?⊂ps[i]:=vz hi;have M1:=wv (bQ ls) (bQ ps) i (ps.take i) (by rw[vi];lia);let⟨j,b,k,c⟩:=WV (lx:=bQ ls) (px:=bQ ps) (st:=cj (bQ ls) (bQ ps) (ps.take i)) (p:=ps[i]);have e:cj (bQ ls) (bQ ps) (ps.take (i+1))=df (bQ ls) (bQ ps) (cj (bQ ls) (bQ ps) (ps.take i)) ps[i]:=by rw[take_snoc g,qG]
  rw[<-e]at b c;have a:x<(cj (bQ ls) (bQ ps) (ps.take i)).1.length->∃j,j<i+1/\numOf ls ps j=x:=λh=>by
   let⟨j,m,f⟩:=Ea n i ⋯ x h ⋯;rwa[j,⋯,f]
  rcases c with⟨_,z⟩ | ⟨o,q⟩
  .exact a (by rw[z]at h;rwa[h])
  .rcases Nat.lt_or_ge x (cj (bQ ls) (bQ ps) (ps.take i)).1.length with y | y
   .exact a y
   .refine#[i,⋯,?_];rw[<-A5 (n:=i+1) ⋯ ⋯,b];have:=getD_last (l:=(cj (bQ ls) (bQ ps) (ps.take i)).2) (x:=j) (d:=0);rw[M1.ln]at this;lia
def LQ(W:dX ls ps)(D:1<=⇑ps)(K:Kept ls ps ms):pB ps (fI ls (du (cR ls ps) ms)) (λi k=>i<⇑ps/\ms[k]?⊂(numOf ls ps i)) (λj=>ms.idxOf (numOf ls ps j)):=by
 have O:=XV W D;have B:=Dp O W.l8 K;have z:⇑(du (cR ls ps) ms)=⇑ms:=by unfold du;rw[vt]
 have r:⇑(fI ls (du (cR ls ps) ms))=⇑ms:=by rw[Zz,z]
 erw[λi k h=>#[h.1,by rw[r];rwa[(vx.mp h.2).1]],λk o=>?_,?_,λi k p q h l C=>?_]
 .rw[r]at o;have g:ms[k]<⇑(cR ls ps):=vD (K.lt O (getElem_mem o)) O.tp;let⟨j,m,u⟩:=Ea (ls:=ls) (ps:=ps) ⇑ps ⇑ps (vb _) ms[k] (by rw[v5];rwa[g]) (vb _);rwa[j,m,by rw[u];rwa[vz o]]
 .let⟨⟨c,m,u⟩,_⟩:=K.named O;erw[⋯,?_];rw[r,show ⇑ms-1=c by lia];rwa[m]
 .let⟨F,g⟩:=h;have v:=GQ W l;have s:=XT (ks:=cR ls ps) g;rw[vy,v]at s;have t:=AJ (ls:=ls) s;rw[C]at t;cases t;have d:∀j∈cM ps p.2,numOf ls ps j∈ms:=λj a=>by
   erw[K.refs O (vm g) v _ ?_];let⟨x,b,rfl⟩:=vK.mp a;generalize p.2=f at b;cases f with
   | row qs=>rwa[vK.mpr #[x,b,rfl]]
   | side qs=>rwa[vK.mpr #[x,b,rfl]]
   | again k y=>rw[vo.mp b];rwa[vq]
   | _=>rwa[nomatch b]
  have w:∀j∈cM ps p.2,cu (bQ (fI ls (du (cR ls ps) ms))) (hZ (ms.idxOf (numOf ls ps j)))=ms.idxOf (numOf ls ps j):=λj a=>MV B (by rw[z];rwa[idxOf_lt_length_of_mem (d j a)])
  erw[?_,?_,λj a=>#[W.cQ l a,by have:=W.cQ l a;lia,(AW (d j a)).1]]
  .have A:=λx h n (e:p.2 = .rise x h n)=>W.r i p.1 x h n (by rw[l,<-e])
   show iu _ p.2 (pI (bQ ls) (r8 _ (mI _ _ _ p.2)));generalize p.2=f at A;cases f with
   | hold n=>rfl
   | ring x n=>rfl
   | rise x h n=>
    let⟨j,a⟩:=A x h n rfl;show Fm.rise ((bQ ls).getD (cu (bQ ls) x) ⟨#[]⟩) h n = .rise x h n;rw[jV W.ln a,vy,a];rfl
   | row qs=>rwa[_,rfl,by rw[vt,vt,vt],λZ Z Z Z Z=>trivial]
   | side qs=>rwa[_,rfl,by rw[vt,vt,vt],λZ Z Z Z Z=>trivial]
   | again k x=>rwa[_,rfl,trivial]
  .unfold cM at w|-;show(pI (bQ ls) (r8 _ (mI _ _ _ p.2))).ns.map _=_;rw[AI,vU,v6,v6];have E:(mI (bQ ls) (bQ ps) (cj (bQ ls) (bQ ps) ps).2 p.2).ns=p.2.ns.map λx=>numOf ls ps (cu (bQ ps) x):=by cases p.2<;>rfl
   rw[E,v6];erw[Eq.trans ?_ v6.symm];rwa[map_congr_left λx b=>w _ (vK.mpr #[x,b,rfl])]
def iu.gE{R:Str->Str->Prop}{p q:Fm}{x:Str}{a b:Int}(h:iu R p q):p = .rise x a b↔q = .rise x a b:=by
 constructor
 .rintro rfl;rwa[h]
 .rintro rfl;rwa[h.rise]
section
variable{qs:N1}{C:Nat->Nat->Prop}{g:Nat->Nat}
def IG{M N:L1}(R:pB ps qs C g)(H:⇑M=⇑ps)(I:⇑N=⇑qs)(B:dJ ls ps M)(D:dJ ls qs N):∀i k,C i k->N.getD k []=M.getD i []:=by
 intro i
 induction i using Nat.strongRecOn with
 | ind i ih=>
  intro k s;let⟨E,F⟩:=R.lt i k s;have q:ps[i]?⊂ps[i]:=vz E;have r:qs[k]?⊂qs[k]:=vz F;have z:M[i]?⊂(M.getD i []):=by simp_all
  have A:N[k]?⊂(N.getD k []):=by simp_all
  let⟨a,b⟩:=B i _ _ q z;let⟨w,y⟩:=D k _ _ r A;let⟨u,d,t⟩:=R.f i k _ _ s q r;erw[u6 w a λv=>(y v).trans (Iff.trans ?_ (b v).symm)]
  rw[d];erw[or_congr #[?_,?_] #[?_,?_]]
  .rintro⟨G,l,m⟩;let⟨j,c,rfl⟩:=vK.mp l;let⟨o,p⟩:=t j c;rwa[j,c,by rw[<-ih j o _ p];rwa[m]]
  .rintro⟨j,c,m⟩;let⟨o,p⟩:=t j c;rwa[g j,vK.mpr #[j,c,rfl],by rw[ih j o _ p];rwa[m]]
  .rintro⟨x,h,n,e,f⟩;rwa[x,h,n,u.gE.mpr e,f]
  .rintro⟨x,h,n,e,f⟩;rwa[x,h,n,u.gE.mp e,f]
def sR(Ls:L0)(k v:Int):Prop:=∃pre e post,Ls=pre++e::post/\(k,v)∈e/\∀e'∈post,∀v',(k,v')∉e'
theorem Dv{c b:Type}{f:c->b}:∀{l:List c} {pre:List b} {e:b} {a:List b},l.map f=pre++e::a->∃p x q,l=p++x::q/\p.map f=pre/\f x=e/\q.map f=a
 | [],pre,e,a,h=>by cases pre<;>simp at h
 | y::l,[],e,a,h=>by
  rw[v9,nil_append]at h;injection h with h1 h2;rwa[[],y,l,rfl,rfl,h1,h2]
 | y::l,z::pre,e,a,h=>by
  rw[v9,cons_append]at h;injection h with h1 h2;let⟨p,x,q,rfl,d,g,i⟩:=Dv h2;rwa[y::p,x,q,rfl,by rw[v9,h1,d],g,i]
def Cm{E:L0}{is:L6}{k v:Int}:cF E is k v↔sR (is.map λj=>E.getD j []) k v:=by
 constructor
 .rintro⟨c,j,a,rfl,d,f⟩;erw[c.map λj=>E.getD j [],E.getD j [],a.map λj=>E.getD j [],by rw[vj];rfl,d,λl i=>?_];let⟨g,b,rfl⟩:=vK.mp i;rwa[f g b]
 .rintro⟨c,e,a,h,d,f⟩;let⟨p,x,q,rfl,rfl,rfl,rfl⟩:=Dv h;rwa[p,x,q,rfl,d,λg b=>f _ (vK.mpr #[g,b,rfl])]
def IF{E F:L0}(R:pB ps qs C g)(B:⇑E=⇑ps)(D:⇑F=⇑qs)(w:c9 ls ps E)(y:c9 ls qs F):∀i k,C i k->F.getD k []=E.getD i []:=by
 intro i
 induction i using Nat.strongRecOn with
 | ind i ih=>
  intro k m;let⟨z,A⟩:=R.lt i k m;have h:ps[i]?⊂ps[i]:=vz z;have l:qs[k]?⊂qs[k]:=vz A;have s:E[i]?⊂(E.getD i []):=by simp_all
  have t:F[k]?⊂(F.getD k []):=by simp_all
  let⟨a,b⟩:=w i _ _ h s;let⟨q,r⟩:=y k _ _ l t;let⟨p,d,o⟩:=R.f i k _ _ m h l;erw[AA q a λx v=>(r x v).trans (Iff.trans ?_ (b x v).symm)]
  unfold g8;have u:(cM ps ps[i].2).map (Function.comp (λj=>F.getD j []) g)=(cM ps ps[i].2).map λj=>E.getD j []:=map_congr_left λj c=>ih j (o j c).1 _ (o j c).2
  rw[Cm,Cm,d,v6,u];erw[or_congr Iff.rfl #[?_,?_]]
  .rintro⟨x,n,e,f⟩;rwa[x,n,p.gE.mpr e,f]
  .rintro⟨x,n,e,f⟩;rwa[x,n,p.gE.mp e,f]
theorem Ek:∀{l:L5},l≠[]->∃g∈l,∀x∈l,x<=g
 | [],h=>uf rfl h
 | [a],_=>#[a,vq,λx c=>by rw[vo.mp c];rwa[vA _]]
 | a::b::r,_=>by
  let⟨g,e,d⟩:=Ek (l:=b::r) (λz=>by cases z);rcases Int.le_total a g with z | z
  .exact#[g,vp _ e,λx c=>by
    rcases mem_cons.mp c with rfl | c
    .exact z
    .exact d x c]
  .exact#[a,vq,λx c=>by
    rcases mem_cons.mp c with rfl | c
    .exact vA _
    .exact Int.le_trans (d x c) z]
def Eg{f:Fm}{a:L5}(h:ij f a):∃g,ig f a g:=by
 cases f with
 | side qs=>rwa[(Ek h).imp λg h=>h]
 | again k x=>let⟨y,r,rfl,q⟩:=h;rwa[k*y,y,rfl,rfl]
 | row qs=>rwa[_,rfl]
 | _=>rwa[_,rfl]
def kL{R:Str->Str->Prop}{p q:Fm}(h:iu R p q){a:L5}:(ij p a↔ij q a)/\∀g,ig p a g↔ig q a g:=by
 cases p with
 | row ps=>let⟨j,rfl,j⟩:=h;rwa[Iff.rfl,λg=>Iff.rfl]
 | side ps=>let⟨j,rfl,j⟩:=h;rwa[Iff.rfl,λg=>Iff.rfl]
 | again k x=>let⟨j,rfl,j⟩:=h;rwa[Iff.rfl,λg=>Iff.rfl]
 | _=>rw[show q=_ from h];rwa[Iff.rfl,λg=>Iff.rfl]
def iu.uu{R:Str->Str->Prop}{p q:Fm}{ys:L8}(h:iu R p q)(e:q = .side ys):∃xs,p = .side xs:=by
 subst e;cases p with
 | side ps=>rwa[_,rfl]
 | row ps=>let⟨j,e,j⟩:=h;cases e
 | again k x=>let⟨j,e,j⟩:=h;cases e
 | _=>cases h
def IH{gs:L5}{w:L1}(S:oG ls ps gs w)(hl:⇑w=⇑ps)(W:dJ ls ps w)(R:pB ps qs C g)(n1:1<=⇑qs)(X:dX ls qs):∃gs' hs',oG ls qs gs' hs'/\gs'∘(⇑qs-1)=gs∘(⇑ps-1)/\⇑hs'=⇑qs/\dJ ls qs hs':=by
 have⟨d,hrep⟩:∃d:Nat->Nat,∀k,k<⇑qs->C (d k) k:=by
  have h:∀k,∃i,k<⇑qs->C i k:=λk=>by
   rcases Nat.lt_or_ge k ⇑qs with z | z
   .exact(R.ex k z).imp λi h N=>h
   .exact#[0,λh=>⋯]
  rwa[λk=>(h k).choose,λk s=>(h k).choose_spec s]
 have y:∀{α:Type} (v:Nat->α) (k i:Nat) (p q:Str×Fm),C i k->ps[i]?⊂p->qs[k]?⊂q->(∀f,f<k->∀j,C j f->v j=v (d f))->(cM ps p.2).map v=(cM qs q.2).map λf=>v (d f):=λv k i p q r hp u M=>by
  let⟨N,G,l⟩:=R.f i k p q r hp u;rw[G,v6];erw[map_congr_left λj A=>M (g j) ?_ j (l j A).2]
  rwa[X.cQ u (by rw[G];rwa[vK.mpr #[j,A,rfl]])]
 have hG:∀k,k<⇑qs->∀i,C i k->gs∘i=gs∘(d k):=by
  intro k
  induction k using Nat.strongRecOn with
  | ind k M=>
   intro s i r;have I:qs[k]?⊂qs[k]:=vz s;have D:∀i,C i k->∀g,ig qs[k].2 ((cM qs qs[k].2).map λf=>gs∘(d f)) g->g=gs∘i:=λi r g L=>by
    obtain⟨p,t⟩:∃p,ps[i]?⊂p:=#[_,vz (R.lt i k r).1]
    have B:=y (λj=>gs∘j) k i _ _ r t I λf o j l=>M f o ⋯ j l
    erw[(S.ln i _ t).2 g ?_];rw[B];rwa[((kL (R.f i k _ _ r t I).1).2 g).mpr L]
   obtain⟨p,t⟩:∃p,ps[i]?⊂p:=#[_,vz (R.lt i k r).1]
   have B:=y (λj=>gs∘j) k i _ _ r t I λf o j l=>M f o ⋯ j l
   have Q:=(S.ln i _ t).1;rw[B]at Q;let⟨g,L⟩:=Eg ((kL (R.f i k _ _ r t I).1).1.mp Q);rw[<-D i r g L,<-D (d k) (hrep k s) g L]
 have Z:∀k,k<⇑qs->∀i,C i k->w.getD i []=w.getD (d k) []:=by
  intro k
  induction k using Nat.strongRecOn with
  | ind k M=>
   intro s i r;have I:qs[k]?⊂qs[k]:=vz s;have D:∀i,C i k->(w.getD i []).Pairwise (· < ·)/\∀v,v∈w.getD i []↔(∃c∈(cM qs qs[k].2).map (λf=>w.getD (d f) []),v∈c)\/∃x h n,qs[k].2 = .rise x h n/\v=(cu (bQ ls) x:Nat):=λi r=>by
    have hi:=(R.lt i k r).1;obtain⟨p,t⟩:∃p,ps[i]?⊂p:=#[_,vz hi]
    have B:=y (λj=>w.getD j []) k i _ _ r t I λf o j l=>M f o ⋯ j l
    have F:=(R.f i k _ _ r t I).1;let⟨a,b⟩:=W i _ (w.getD i []) t (by rw[vy,vz ⋯];rfl);erw[a,λv=>(b v).trans (or_congr ?_ ?_)]
    .rw[<-B];constructor
     .rintro⟨j,l,H⟩;rwa[_,vK.mpr #[j,l,rfl],H]
     .rintro⟨c,a0,H⟩;let⟨j,l,rfl⟩:=vK.mp a0;rwa[j,l,H]
    .constructor
     .rintro⟨x,h,n,e,J⟩;rwa[x,h,n,F.gE.mp e,J]
     .rintro⟨x,h,n,e,J⟩;rwa[x,h,n,F.gE.mpr e,J]
   have h1:=D i r;have h2:=D (d k) (hrep k s);rwa[u6 h1.1 h2.1 λv=>(h1.2 v).trans (h2.2 v).symm]
 have T:∀k,k<⇑qs->((List.range ⇑qs).map λk=>gs∘(d k)).getD k 0=gs∘(d k):=λk s=>by
  rw[vy,vv,List.getElem?_range s];rfl
 have O:∀k,k<⇑qs->((List.range ⇑qs).map λk=>w.getD (d k) []).getD k []=w.getD (d k) []:=λk s=>by
  rw[vy,vv,List.getElem?_range s];rfl
 have E:∀{k:Nat} {q:Str×Fm},qs[k]?⊂q->∀j∈cM qs q.2,j<⇑qs:=λu j l=>by
  have:=X.cQ u l;have:=(vx.mp u).1;lia
 erw[(List.range ⇑qs).map λk=>gs∘(d k),(List.range ⇑qs).map λk=>w.getD (d k) [],#[X,by rw[vt,length_range],λk s=>?_,λN nl hN k s=>?_,λk q u=>?_,λk q xs u e=>?_],?_]
 .rw[T k s];rwa[S.gb _ (R.lt _ k (hrep k s)).1]
 .rw[O k s];rwa[IG R hl nl W hN _ k (hrep k s)]
 .have s:=(vx.mp u).1;have r:=hrep k s;obtain⟨p,t⟩:∃p,ps[d k]?⊂p:=#[_,vz (R.lt _ k r).1]
  have B:=y (λj=>gs∘j) k _ _ _ r t u λf o j l=>hG f ⋯ j l
  have Y:(cM qs q.2).map (λj=>((List.range ⇑qs).map λk=>gs∘(d k)).getD j 0)=(cM ps p.2).map λj=>gs∘j:=by
   rw[B];rwa[map_congr_left λj l=>T j (E u j l)]
  have F:=(R.f _ k _ _ r t u).1;rw[Y,T k s];rwa[(kL F).1.mp (S.ln _ _ t).1,λg L=>(S.ln _ _ t).2 g (((kL F).2 g).mpr L)]
 .have s:=(vx.mp u).1;have r:=hrep k s;obtain⟨p,t⟩:∃p,ps[d k]?⊂p:=#[_,vz (R.lt _ k r).1]
  have B:=y (λj=>w.getD j []) k _ _ _ r t u λf o j l=>Z f ⋯ j l
  let⟨F,G,l⟩:=R.f _ k _ _ r t u;let⟨ys,ey⟩:=F.uu e;let⟨s1,s2⟩:=S.sd _ _ ys t ey;have Y:(cM qs q.2).map (λj=>((List.range ⇑qs).map λk=>w.getD (d k) []).getD j [])=(cM ps p.2).map λj=>w.getD j []:=by
   rw[B];rwa[map_congr_left λj l=>O j (E u j l)]
  erw[λj A=>?_,by rw[Y];rwa[s2]];rw[O j (E u j A)];rw[G]at A;let⟨U,K,rfl⟩:=vK.mp A;rw[<-Z _ (R.lt _ _ (l U K).2).2 U (l U K).2];rwa[s1 U K]
 .refine#[by rw[T _ ⋯];rwa[(hG _ ⋯ _ R.top).symm],by rw[vt,length_range],λk q ks u P=>?_];have s:=(vx.mp u).1;have r:=hrep k s;have hi:=(R.lt _ k r).1;obtain⟨p,t⟩:∃p,ps[d k]?⊂p:=#[_,vz hi]
  rw[vv,List.getElem?_range s]at P;cases P;have B:=y (λj=>w.getD j []) k _ _ _ r t u λf o j l=>Z f ⋯ j l
  have F:=(R.f _ k _ _ r t u).1;let⟨a,b⟩:=W _ _ (w.getD (d k) []) t (by rw[vy,vz ⋯];rfl);erw[a,λv=>(b v).trans (or_congr ?_ ?_)]
  .constructor
   .rintro⟨j,l,H⟩;have m:w.getD j []∈(cM qs q.2).map λf=>w.getD (d f) []:=by rw[<-B];exact vK.mpr #[j,l,rfl]
    let⟨f,o,e⟩:=vK.mp m;rwa[f,o,by rw[O f (E u f o),e];rwa[H]]
   .rintro⟨f,o,H⟩;rw[O f (E u f o)]at H;have m:w.getD (d f) []∈(cM ps p.2).map λj=>w.getD j []:=by rw[B];exact vK.mpr #[f,o,rfl]
    let⟨j,l,e⟩:=vK.mp m;rwa[j,l,by rw[e];rwa[H]]
  .constructor
   .rintro⟨x,h,n,e,J⟩;rwa[x,h,n,F.gE.mp e,J]
   .rintro⟨x,h,n,e,J⟩;rwa[x,h,n,F.gE.mpr e,J]
end
end
structure Sa where
 d:Addr
 f:Addr
 o:Addr
 s:Addr
 l:Addr
 p:Addr
 fb:L7
 la:L7
 pa:L7
noncomputable def iV(z:Sa):List (Str×V):=cq "pieces" (.ref z.p) (cq "left" (.ref z.l) (cq "sizes" (.ref z.s) (cq "forms" (.ref z.o) (cq "first" (.ref z.f) (cq "limbs" (.ref z.d) [])))))
section
variable{z:Sa}
def Jl(h:¬a=b):(cq b v r).lookup a=r.lookup a:=by rw[ZD,vc h]
def Za:(cq a v r).lookup a⊂v:=by rw[ZD,vd rfl]
def Wm:(iV z).lookup ("pieces" : Str)=↥z.p:=Za
def G6:(iV z).lookup ("left" : Str)=↥z.l:=(Jl ∅).trans Za
def zP:(iV z).lookup ("sizes" : Str)=↥z.s:=(Jl ∅).trans ((Jl ∅).trans Za)
def YJ:(iV z).lookup ("forms" : Str)=↥z.o:=(Jl ∅).trans ((Jl ∅).trans ((Jl ∅).trans Za))
def Gb:(iV z).lookup ("first" : Str)=↥z.f:=(Jl ∅).trans ((Jl ∅).trans ((Jl ∅).trans ((Jl ∅).trans Za)))
def xK:(iV z).lookup ("limbs" : Str)=↥z.d:=(Jl ∅).trans ((Jl ∅).trans ((Jl ∅).trans ((Jl ∅).trans ((Jl ∅).trans Za))))
def Wl{m:Str}(a:¬m = "pieces")(b:¬m = "left")(c:¬m = "sizes")(d:¬m = "forms")(e:¬m = "first")(f:¬m = "limbs"):(iV z).lookup m=none:=(Jl a).trans ((Jl b).trans ((Jl c).trans ((Jl d).trans ((Jl e).trans (Jl f)))))
theorem Jy(f:Str)(v:V):∀r:List (Str×V),⇑(cq f v r)<=⇑r+1
 | []=>vb _
 | (g,u)::r=>by
  unfold cq;split
  .exact Nat.le_succ _
  .rw[vQ,vQ];have:=Jy f v r;lia
end
def cE.less{H:Hp}(p:H a⊂.ins C dx fs)(B:cE H b pl pp las pas ls ps) :
  ∃H0:Hp,(∀H',(∀c u,c≠a->H c⊂u->H' c⊂u)->bU H0 H')/\(∀{c u},H0 c⊂u->c≠a)/\cE H0 b pl pp las pas ls ps:=by
 have e:∀{c:Addr} {f:N2},H c⊂.tup f->(λc=>if c=a then none else H c) c⊂(.tup f):=λ{c f} h=>by
  lia
 have l:∀{c:Addr} {f:N2},H c⊂.lst f->(λc=>if c=a then none else H c) c⊂(.lst f):=λ{c f} h=>by
  lia
 erw[λc=>if c=a then none else H c,λH' k c u h=>?_,λ{c u} h=>?_,e B.t,l B.l,B.la.mono λa x j=>e j,l B.p,B.pa.mono λa x j=>?_]
 .simp_all
 .lia
 .let⟨m,o,d⟩:=j;erw[m,e o,?_];cases hx2:x.2 with
  | row r=>rw[hx2]at d;let⟨c,g,i⟩:=d;rwa[c,e g,e i]
  | side r=>rw[hx2]at d;let⟨c,g,i⟩:=d;rwa[c,e g,e i]
  | hold n=>rw[hx2]at d;rwa[e d]
  | ring y n=>rw[hx2]at d;rwa[e d]
  | rise y v n=>rw[hx2]at d;rwa[e d]
  | again k y=>rw[hx2]at d;rwa[e d]
def Ao(h:⇑(cq f v r)<=n)(k:n<1000):⇑(cq f v r)<1000:=vD h k
section
variable{a b c d e:Str}{u v w x y:V}
def Ap:⇑(cq c w (cq b v (cq a u [])))<1000:=by
 have:=Jy c w (cq b v (cq a u []));have:=Jy b v (cq a u []);have:=Jy a u [];simp at *;lia
def Aq:⇑(cq d x (cq c w (cq b v (cq a u []))))<1000:=by
 have:=Jy d x (cq c w (cq b v (cq a u [])));have:=Jy c w (cq b v (cq a u []));have:=Jy b v (cq a u []);have:=Jy a u [];simp at *;lia
def Ar:⇑(cq e y (cq d x (cq c w (cq b v (cq a u [])))))<1000:=by
 have:=Jy e y (cq d x (cq c w (cq b v (cq a u []))));have:=Jy d x (cq c w (cq b v (cq a u [])));have:=Jy c w (cq b v (cq a u []));have:=Jy b v (cq a u []);have:=Jy a u [];simp at *;lia
end
section
variable{L:L8}{fs:List Fn}{M:L1}{gs:L5}{names:L8}{ls:L4}{n:Nat}
def J2{a:Type}{xs:List a}{d:a}{i:Nat}(h:i<n):(xs.take n).getD i d=xs.getD i d:=by
 simp_all
def dS.take{f:Fn}{i:Nat}(hi:i<=n)(h:dS L M i f):dS L (M.take n) i f:=by
 cases f with
 | side is=>
  let⟨a,b,c,d,e⟩:=h;have g:∀j∈is,(M.take n).getD j []=M.getD j []:=λj l=>J2 (by have:=c j l;lia)
  erw[a,b,c,λj l=>by rw[g j l];rwa[d j l],?_];exact(List.pairwise_iff_forall_sublist.mpr λ{x y} o=>by
   have p:x∈is:=o.subset vq;have q:y∈is:=o.subset (vp _ vq);rw[g x p,g y q];rwa[List.pairwise_iff_forall_sublist.mp e o])
 | hold m=>rwa[h]
 | ring x m=>rwa[h]
 | rise x v m=>rwa[h]
 | row is=>rwa[h]
 | again k j=>rwa[h]
def kb.take{ks:L5}{f:Fn}(c:∀j∈f.js,j<n)(h:kb L M f ks):kb L (M.take n) f ks:=by
 erw[h.1,λk=>(h.2 k).trans ?_];have:(∃j∈f.js,k∈M.getD j [])↔∃j∈f.js,k∈(M.take n).getD j []:=by
  constructor
  .rintro⟨j,a,b⟩;rwa[j,a,by rw[J2 (c j a)];rwa[b]]
  .rintro⟨j,a,b⟩;rwa[j,a,by rw[J2 (c j a)]at b;rwa[b]]
 rw[this]
def fN.take{g:Int}{f:Fn}(o:∀j∈f.js,j<n)(h:fN gs f g):fN (gs.take n) f g:=by
 have e:∀j∈f.js,(gs.take n).getD j 0=gs∘j:=λj a=>J2 (o j a)
 cases f with
 | hold m=>rwa[h]
 | ring x m=>rwa[h]
 | rise x v m=>rwa[h]
 | row is=>
  show g=(is.map λj=>(gs.take n).getD j 0).sum;have d:is.map (λj=>(gs.take n).getD j 0)=is.map λj=>gs∘j:=map_congr_left e
  rw[d];rwa[h]
 | side is=>
  let⟨⟨j,a,i⟩,l⟩:=h;rwa[#[j,a,by rw[e j a];rwa[i]],λc b=>by rw[e c b];rwa[l c b]]
 | again k j=>
  show g=k*(gs.take n).getD j 0;rw[e j vq];rwa[h]
def dO.take(D:dO L fs M gs)(l:n<=⇑fs):dO L (fs.take n) (M.take n) (gs.take n):=by
 have m:=D.ml;have k:=D.gl;erw[by simp_all,by simp_all,λi f d=>?_,λi e=>?_]
 .have e:=(vx.mp d).1;rw[vi]at e;rw[List.getElem?_take,vd ⋯]at d;let⟨a,b,c⟩:=D.f i f d;have h:=a.js.2;rw[J2 ⋯,J2 ⋯];rwa[a.take ⋯,b.take λj g=>by have:=h j g;lia,c.take λj g=>by have:=h j g;lia]
 .rw[vi]at e;rw[J2 ⋯];rwa[D.g i ⋯]
theorem wy{gs a:L5}:∀{is:L6} {b:Int},(∀j∈is,gs∘j=a∘j)->cK gs is b=cK a is b
 | [],_,_=>rfl
 | j::r,b,h=>by
  unfold cK;rw[h j vq,wy λk c=>h k (vp _ c)]
def FR{gs a:L5}(h:∀j∈is,gs∘j=a∘j):cW gs f is=cW a f is:=by
 unfold cW;split
 .split
  .rfl
  .rw[h _ vq]
 .exact wy h
 .rfl
def Li{gs a:L5}(h:gs∘q.1=a∘q.1):wq gs t q=wq a t q:=by
 unfold wq dE ov dW;rw[h];split
 .rename_i y e;split at e
  .have b:=vL e;subst b;show _=_;rw[h]
  .cases e
 .rfl
theorem Xp{gs a:L5}:∀{qs:List Pc},(∀q∈qs,gs∘q.1=a∘q.1)->de gs t qs=de a t qs
 | [],_=>rfl
 | q::r,h=>by rw[qp,qp,Li (h q vq),Xp λp b=>h p (vp _ b)]
def YR(D:dO (bQ ls) fs M gs)(e:⇑fs<=⇑names)(m:names.Nodup)(W:dX ls (bS names fs))(o:dX ls (bS names (fs.take n)))(u:n<=⇑fs):∀{i:Nat} {t:Int},i<n->reach (bS names (fs.take n)) (gs.take n) i t=reach (bS names fs) gs i t:=by
 intro i
 induction i using Nat.strongRecOn with
 | ind i ih=>
  intro t l;obtain⟨f,c⟩:∃f,fs[i]?⊂f:=#[_,vz ⋯]
  have d:(fs.take n)[i]?⊂f:=by rw[List.getElem?_take,vd l];rwa[c]
  have g:=(D.f i f c).1.js.2;have b:cH (bS names (fs.take n)) (gs.take n) i=cH (bS names fs) gs i:=by
   unfold cH;rw[J1 c,J1 d];show cW _ _ _=cW _ _ _;rw[zm (by rw[vi];lia) m (λj a=>by rw[vi];have:=g j a;lia),zm e m (λj a=>by have:=g j a;lia)];rwa[FR λj a=>J2 (by have:=g j a;lia)]
  have k:(gs.take n).getD i 0=gs∘i:=J2 l;by_cases h:gs∘i<=t\/cH (bS names fs) gs i=[]
  .rw[Jb h,Jb (by rw[k,b];rwa[h])]
  .rw[JE W h,JE o (by rw[k,b];rwa[h]),b];have p:de (gs.take n) t (cH (bS names fs) gs i)=de gs t (cH (bS names fs) gs i):=Xp λq r=>J2 (by have:=uX W r;lia)
   rw[p];exact JU λx s=>by
    have:=Qe W s;rwa[ih x.1 this ⋯]
end
noncomputable def cx(es:Np)(h:L5):L5:=es.foldl (λh q=>h.set q.1.toNat q.2) h
def Q2(q:Int×Int)(r:Np)(h:L5):cx (q::r) h=cx r (h.set q.1.toNat q.2):=rfl
theorem qL:∀(es:Np) (h:L5),⇑(cx es h)=⇑h
 | [],_=>rfl
 | q::r,h=>by rw[Q2,qL r,length_set]
theorem zt:∀{es:Np} {h:L5} {i:Nat},(∀q∈es,0<=q.1)->(∀v,((i:Int),v)∉es)->(cx es h)[i]?=h[i]?
 | [],_,_,_,_=>rfl
 | q::r,h,i,p,n=>by
  rw[Q2,zt (λx c=>p x (vp _ c)) (λv b=>n v (vp _ b))];have:q.1.toNat≠i:=λe=>by
   have d:=p q vq;have a:q.1=(i:Int):=⋯
   rwa[n q.2 (by rw[<-a];rwa[vq])]
  rw[List.getElem?_set_ne this]
theorem yI:∀{es:Np} {h:L5} {i:Nat} {v:Int},(es.map (·.1)).Pairwise (· < ·)->(∀q∈es,0<=q.1)->((i:Int),v)∈es->i<⇑h->(cx es h)[i]?⊂v
 | [],_,_,_,_,_,m,_=>nomatch m
 | q::r,h,i,v,pw,p,m,hi=>by
  rw[v9,vV]at pw;rw[Q2];rcases mem_cons.mp m with e | m
  .subst e;rw[zt (λx a=>p x (vp _ a)) (λw b=>by
    have:=pw.1 _ (vK.mpr #[_,b,rfl]);rwa[uf this (Int.lt_irrefl _)])]
   simp_all
  .exact yI pw.2 (λx a=>p x (vp _ a)) m (by rw[length_set];rwa[hi])
def WT(d:(es.map (·.1)).Pairwise (· < ·))(p:∀q∈es,0<=q.1)(h:L5):cx es (cx es h)=cx es h:=by
 erw[ext_getElem? λi=>?_]
 by_cases b:i<⇑h
 case neg=>rw[vT (by rw[qL,qL];lia),vT (by rw[qL];lia)]
 by_cases c:∃v,((i:Int),v)∈es
 .let⟨v,a⟩:=c;rw[yI d p a (by rw[qL];rwa[b]),yI d p a b]
 .rw[zt p (λv a=>c #[v,a])]
def EN(L:L8)(fs:List Fn)(n:Nat)(E:L0):Prop:=∀(i:Nat) (f:Fn),i<n->fs[i]?⊂f->((E.getD i []).map (·.1)).Pairwise (· < ·)/\∀k v,(k,v)∈E.getD i []↔cF E f.js k v\/∃x m,f = .rise x v m/\k=(cu L x:Nat)
noncomputable def iU(L:L8)(fs:List Fn)(gs:L5)(E:L0)(h:L5)(x:Nat×Int):L5:=
 if gs∘x.1<=x.2 then cx (E.getD x.1 []) h
 else match fs[x.1]? with
  | some (.rise y v n)=>h.set (cu L y) (Rp.ramp (h∘(cu L y)) v n x.2)
  | _=>h
noncomputable def dR(L:L8)(names:L8)(fs:List Fn)(gs:L5)(E:L0)(j:Nat)(t:Int)(h:L5):L5:=(reach (bS names fs) gs j t).foldl (iU L fs gs E) h
noncomputable def eD(names:L8)(fs:List Fn)(gs:L5)(j:Nat)(t:Int):L8:=(reach (bS names fs) gs j t).flatMap (cO (bS names fs))
noncomputable def oI(names:L8)(fs:List Fn)(gs:L5)(j:Nat)(t:Int):L3:=de gs t (cH (bS names fs) gs j)
section
variable{L:L8}{fs:List Fn}{M:L1}{gs:L5}{names:L8}{ls:L4}{n:Nat}{E:L0}
def EN.tS(D:dO L fs M gs)(u:L.Nodup)(e:EN L fs n E)(w:n<=⇑fs):∀{i:Nat},i<n->∀q∈E.getD i [],q.1∈M.getD i []:=by
 intro i
 induction i using Nat.strongRecOn with
 | ind i ih=>
  intro s q t;obtain⟨f,c⟩:∃f,fs[i]?⊂f:=#[_,vz ⋯]
  let⟨a,b,Z⟩:=D.f i f c;rcases((e i f s c).2 q.1 q.2).mp t with⟨v,j,h,o,r,_⟩ | ⟨x,m,l,p⟩
  .have d:j∈f.js:=by rw[o];simp
   have:=a.js.2 j d;rwa[(b.2 q.1).mpr (.inl #[j,d,ih j this ⋯ _ r])]
  .subst l;let⟨⟨k,g⟩,Z⟩:=a;erw[(b.2 q.1).mpr (.inr #[x,q.2,m,k,rfl,g,?_])];rw[p,jV u g]
def EN.pos(D:dO L fs M gs)(c:L.Nodup)(e:EN L fs n E)(a:n<=⇑fs)(hi:i<n):∀q∈E.getD i [],0<=q.1:=λq b=>(D.Ai i ⋯ q.1 (e.tS D c a hi q b)).1
def xV(h:cF E r k v):cF E (j::r) k v:=by
 let⟨b,i,a,e,c,d⟩:=h;rwa[j::b,i,a,by rw[e];rfl,c,d]
theorem xL:∀{js:L6} {h:L5} {i:Nat},(∀j∈js,((E.getD j []).map (·.1)).Pairwise (· < ·)/\∀q∈E.getD j [],0<=q.1)->i<⇑h->
  (∃v,cF E js i v/\(js.foldl (λh j=>cx (E.getD j []) h) h)[i]?⊂v)\/((∀v,¬cF E js i v)/\(js.foldl (λh j=>cx (E.getD j []) h) h)[i]?=h[i]?)
 | [],h,i,_,_=>.inr #[λv ⟨f,j,g,e,_⟩=>by simp at e,rfl]
 | j::r,h,i,p,hi=>by
  let⟨D,z⟩:=p j vq;rw[v7];rcases xL (js:=r) (h:=cx (E.getD j []) h) (i:=i) (λk B=>p k (vp _ B)) (by rw[qL];rwa[hi])with⟨v,a,b⟩ | ⟨a,b⟩
  .exact .inl #[v,xV a,b]
  .by_cases c:∃v,((i:Int),v)∈E.getD j []
   .let⟨v,d⟩:=c;erw[.inl #[v,#[[],j,r,rfl,d,λn t o u=>?_],by rw[b];rwa[yI D z d hi]]];rwa[no_last a t u]
   .refine .inr #[λv d=>?_,by rw[b];rwa[zt z λv d=>c #[v,d]]];let⟨f,k,g,e,x,A⟩:=d;cases f with
    | nil=>rw[nil_append]at e;cases e;rwa[c #[v,x]]
    | cons y f=>rw[cons_append]at e;cases e;rwa[a v #[f,k,g,rfl,x,A]]
where
 no_last:∀{r:L6} {i n:Nat} {o:Int},(∀v,¬cF E r i v)->n∈r->((i:Int),o)∈E.getD n []->False
  | [],_,_,_,_,m,_=>nomatch m
  | y::r,i,n,o,a,m,d=>by
   have w:∀v,¬cF E r i v:=λv d=>a v (xV d)
   rcases mem_cons.mp m with e | m
   .subst e;rwa[a o #[[],n,r,rfl,d,λC s F l=>no_last w s l]]
   .exact no_last w m d
theorem Cf:∀(js:L6) (h:L5),⇑(js.foldl (λh j=>cx (E.getD j []) h) h)=⇑h
 | [],_=>rfl
 | j::r,h=>by rw[v7,Cf r,qL]
def EN.all(D:dO L fs M gs)(d:L.Nodup)(e:EN L fs n E)(c:n<=⇑fs)(hi:i<n)(o:fs[i]?⊂f)(u:∀x v m,f≠.rise x v m)(h:L5):cx (E.getD i []) h=f.js.foldl (λh j=>cx (E.getD j []) h) h:=by
 have js:=(D.f i f o).1.js.2;let⟨a,b⟩:=e i f hi o;have w:∀j∈f.js,((E.getD j []).map (·.1)).Pairwise (· < ·)/\∀q∈E.getD j [],0<=q.1:=λj s=>by
  have:=js j s;obtain⟨g,r⟩:∃g,fs[j]?⊂g:=#[_,vz ⋯]
  rwa[(e j g ⋯ r).1,e.pos D d c ⋯]
 erw[ext_getElem? λk=>?_]
 by_cases p:k<⇑h
 case neg=>rw[vT (by rw[qL];lia),vT (by rw[Cf];lia)]
 rcases xL w p with⟨v,l,q⟩ | ⟨l,q⟩
 .rw[q];rwa[yI a (e.pos D d c hi) ((b _ _).mpr (.inl l)) p]
 .rw[q];refine zt (e.pos D d c hi) λv t=>?_
  rcases(b _ _).mp t with z | ⟨x,m,z,_⟩
  .exact l v z
  .exact u x v m z
def EN.one(D:dO L fs M gs)(e:EN L fs n E)(o:EN L fs m E')(q:m<=n)(r:n<=⇑fs):∀i,i<m->E'.getD i []=E.getD i []:=by
 intro i
 induction i using Nat.strongRecOn with
 | ind i ih=>
  intro p;obtain⟨f,d⟩:∃f,fs[i]?⊂f:=#[_,vz ⋯]
  have g:=(D.f i f d).1.js.2;let⟨a,b⟩:=e i f ⋯ d;let⟨h,l⟩:=o i f p d;erw[AA h a λk v=>(l k v).trans (Iff.trans ?_ (b k v).symm)]
  have ext:∀j∈f.js,E'.getD j []=E.getD j []:=λj c=>ih j (g j c) (by have:=g j c;lia)
  rwa[λz=>z.imp (Z3 ext) id,λz=>z.imp (Z3 λj c=>(ext j c).symm) id]
def EN.of(D:dO L fs M gs)(s:⇑fs<=⇑names)(w:names.Nodup)(y:n<=⇑fs)(q:bQ ls'=L)(u:⇑E=⇑(bS names (fs.take n)))(h:c9 ls' (bS names (fs.take n)) E):EN L fs n E:=λi f o l=>by
 have e:(fs.take n)[i]?⊂f:=by rw[List.getElem?_take,vd o];rwa[l]
 have t:=(D.f i f l).1.js.2;have g:⇑(fs.take n)=n:=by rw[vi];lia
 have p:E[i]?⊂(E.getD i []):=by
  rw[vy,vz (by rw[u,j3,g];rwa[o])];rfl
 let⟨a,b⟩:=h i _ _ (J1 e) p;erw[a,λk v=>(b k v).trans ?_];unfold g8;rw[zm (by rw[g];lia) w (λj r=>by rw[g];have:=t j r;lia),q];erw[or_congr_right #[?_,?_]]
 .rintro⟨x,m,c,d⟩;erw[x,m,?_,d];cases f<;>cases c
  rfl
 .rintro⟨x,m,c,d⟩;rwa[x,m,by rw[c];rfl,d]
theorem Wo{b c a:Type}{g:b->List c}{f:a->c->a}:∀{l:List b} {h:a},(l.flatMap g).foldl f h=l.foldl (λh x=>(g x).foldl f h) h
 | [],_=>rfl
 | x::r,h=>by rw[flatMap_cons,foldl_append,v7,Wo]
theorem xI{a b c:Type}{g:a->List b}{f:b->List c}:∀{l:List a},(l.flatMap g).flatMap f=l.flatMap λx=>(g x).flatMap f
 | []=>rfl
 | x::r=>by rw[flatMap_cons,flatMap_append,flatMap_cons,xI]
theorem Z2{b a:Type}{f g:a->b->a}:∀{l:List b} {h:a},(∀x∈l,∀h,f h x=g h x)->l.foldl f h=l.foldl g h
 | [],_,_=>rfl
 | x::r,h,e=>by rw[v7,v7,e x vq,Z2 λy c=>e y (vp _ c)]
def Hu{ls':L4}{E':L0}{j:Nat}{t:Int}(D:dO L fs M gs)(a:⇑fs<=⇑names)(i:names.Nodup)(d:L.Nodup)(w:⇑L<=8)(l:⇑fs<=61)(r:bQ ls'=L)(v:j<n)(s:n<=⇑fs)(e:EN L fs n E)(u:E'.length=⇑(bS names (fs.take (j+1))))(h:c9 ls' (bS names (fs.take (j+1))) E') :
  cJ ls' (bS names (fs.take (j+1))) (gs.take (j+1)) E' t=dR L names fs gs E j t (ls'.map (·.2)):=by
 subst r;have c:⇑ls'<=8:=by have:⇑(bQ ls')=⇑ls':=vt _;lia
 have W:=D.wf a i d c l;have g:⇑(fs.take (j+1))=j+1:=by rw[vi];lia
 have k:=(D.take (n:=j+1) ⋯).wf (names:=names) (by rw[g];lia) i d c (by rw[g];lia);have q:=EN.one D e (EN.of D a i ⋯ rfl u h) ⋯ s;unfold cJ dR;rw[j3,g];show(reach _ _ j t).foldl _ _=_;rw[YR D a i W k ⋯ (show j<j+1 by lia)];erw[Z2 λx p h=>?_]
 have b:x.1<j+1:=by
  rw[<-YR D a i W k ⋯ (show j<j+1 by lia)]at p;have:=Kc k (by rw[j3,g];lia) p;rw[j3,g]at this;rwa[this]
 obtain⟨f,o⟩:∃f,fs[x.1]?⊂f:=#[_,vz ⋯]
 have m:(fs.take (j+1))[x.1]?⊂f:=by rw[List.getElem?_take,vd b];rwa[o]
 unfold fQ iU;rw[J2 b,q _ b,J1 m,o];split
 .rfl
 .cases f<;>rfl
def He{j:Nat}{t:Int}(D:dO L fs M gs)(a:⇑fs<=⇑names)(e:names.Nodup)(c:L.Nodup)(r:⇑L<=8)(h:⇑fs<=61)(q:j<⇑fs):cP (bS names (fs.take (j+1))) (gs.take (j+1)) t=eD names fs gs j t:=by
 have l:bQ (L.map λx=>(x,(0:Int)))=L:=by
  unfold bQ;rw[v6];rwa[map_id _]
 generalize p:(L.map λx=>(x,(0:Int)))=ls' at l;subst l;have b:⇑ls'<=8:=by have:⇑(bQ ls')=⇑ls':=vt _;lia
 have W:=D.wf a e c b h;have d:⇑(fs.take (j+1))=j+1:=by rw[vi];lia
 have g:=(D.take (n:=j+1) ⋯).wf (names:=names) (by rw[d];lia) e c b (by rw[d];lia);unfold cP eD;rw[j3,d];show(reach _ _ j t).flatMap _=_;rw[YR D a e W g ⋯ (show j<j+1 by lia)];erw[JU λx o=>?_]
 have k:x.1<j+1:=by
  rw[<-YR D a e W g ⋯ (show j<j+1 by lia)]at o;have:=Kc g (by rw[j3,d];lia) o;rw[j3,d]at this;rwa[this]
 obtain⟨f,m⟩:∃f,fs[x.1]?⊂f:=#[_,vz ⋯]
 have i:(fs.take (j+1))[x.1]?⊂f:=by rw[List.getElem?_take,vd k];rwa[m]
 unfold cO;rw[J1 i,J1 m]
end
section
variable{α β:Type}
theorem Ce{f:β->α->β}{x:α}:∀{ys:List α} {h:β},(∀y∈ys,∀h,f (f h x) y=f (f h y) x)->f (ys.foldl f h) x=ys.foldl f (f h x)
 | [],_,_=>rfl
 | y::r,h,k=>by
  rw[v7,v7,k y vq h];rwa[Ce λz a=>k z (vp _ a)]
theorem KP{f:β->α->β}{p:α->Bool}:∀{R:List α} {h:β},R.Pairwise (λx y=>p x=false->p y=true->∀h,f (f h x) y=f (f h y) x)->
  (R.filter λx=>!p x).foldl f ((R.filter p).foldl f h)=R.foldl f h
 | [],_,_=>rfl
 | x::r,h,k=>by
  rw[vV]at k;cases e:p x with
  | true=>
   have a:(x::r).filter (λx=>!p x)=r.filter λx=>!p x:=by simp_all
   rw[a,filter_cons_of_pos e,v7,v7];rwa[KP k.2]
  | false=>
   have a:(x::r).filter (λx=>!p x)=x::r.filter λx=>!p x:=by simp_all
   have b:(x::r).filter p=r.filter p:=by simp_all
   have c:f ((r.filter p).foldl f h) x=(r.filter p).foldl f (f h x):=Ce λy d h=>k.1 y (vP.mp d).1 e (vP.mp d).2 h
   rw[a,b,v7,v7,c];rwa[KP k.2]
theorem KQ{f:β->α->β}{p:α->Bool}:∀{R:List α} {h:β},(∀x∈R,p x=false->∀h,f h x=h)->(R.filter p).foldl f h=R.foldl f h
 | [],_,_=>rfl
 | x::r,h,k=>by
  cases e:p x with
  | true=>
   rw[filter_cons_of_pos e,v7,v7];rwa[KQ λy a=>k y (vp _ a)]
  | false=>
   rw[filter_cons_of_neg (by simp[e]),v7,k x vq e];rwa[KQ λy a=>k y (vp _ a)]
theorem YI{f:α->List β}{p:α->Bool}:∀{R:List α},(∀x∈R,p x=false->f x=[])->(R.filter p).flatMap f=R.flatMap f
 | [],_=>rfl
 | x::r,k=>by
  cases e:p x with
  | true=>
   rw[filter_cons_of_pos e,flatMap_cons,flatMap_cons,YI λy a=>k y (vp _ a)]
  | false=>
   rw[filter_cons_of_neg (by simp[e]),flatMap_cons,k x vq e,YI λy a=>k y (vp _ a)];rfl
end
section
variable{ls:L4}{ps:N1}{gs:L5}{hs:L1}{E:L0}{t:Int}
noncomputable def iW(gs:L5)(x:Nat×Int):Bool:=decide (gs∘x.1<=x.2)
noncomputable def d0(ps:N1)(gs:L5)(x:Nat×Int):Bool:=(cH ps gs x.1).isEmpty
def Dj(gs:L5)(hs:L1)(a b:Nat×Int):Prop:=iW gs a=false->∀k∈hs.getD a.1 [],k∉hs.getD b.1 []
def Dj.ov{a b:Nat×Int}(h:gs∘a.1<=a.2):Dj gs hs a b:=λz=>by
 unfold iW at z;rw[vG h]at z;cases z
def Mc{l r:L3}(h:∀a∈l,gs∘a.1<=a.2)(k:⇑r<=1):(l++r).Pairwise (Dj gs hs):=by
 induction l with
 | nil=>
  match r,k with
  | [],_=>rwa[.nil]
  | [a],_=>rwa[pairwise_singleton _ _]
 | cons a l ih=>rwa[vV.mpr #[λb q=>.ov (h a vq),ih λb c=>h b (vp _ c)]]
theorem Ey:∀{is:L6} {b:Int},(∀k∈is,1<=gs∘k/\gs∘k<=10^60)->(de gs t (cK gs is b)).Pairwise (Dj gs hs)
 | [],b,_=>.nil
 | j::r,b,hg=>by
  by_cases h:b<=t
  .rw[Ke hg h];split
   .exact vV.mpr #[λb q=>.ov (vA _),Ey λk a=>hg k (vp _ a)]
   .exact pairwise_singleton _ _
  .rw[WO (λk a=>by have:=hg k a;lia) ⋯];rwa[.nil]
theorem Ct:∀{is:L6},(∀k:Int,⇑((is.map λj=>hs.getD j []).filter λks=>decide (k∈ks))<=1)->is.Pairwise λj b=>∀k∈hs.getD j [],k∉hs.getD b []
 | [],_=>.nil
 | j::r,h=>by
  erw[vV.mpr #[λb c a e d=>?_,Ct λk=>?_]]
  .have:=h a
   simp_all
  .have:=h k;rw[v9,v8]at this;split at this
   .rw[vQ]at this;lia
   .exact this
def MR(N:Sn ls ps gs hs){i:Nat}(hi:i<⇑ps)(s:0<=t):(de gs t (cH ps gs i)).Pairwise (Dj gs hs):=by
 obtain⟨p,o⟩:∃p,ps[i]?⊂p:=#[_,vz hi]
 have l:cH ps gs i=cW gs p.2 (cM ps p.2):=by unfold cH;rw[o]
 have d:∀k∈cM ps p.2,1<=gs∘k/\gs∘k<=10^60:=λk m=>by
  have:=N.s.w.cQ o m;rwa[N.g ⋯]
 rw[l];cases e:p.2 with
 | again k x=>
  rw[e]at d;rw[show cM ps (.again k x)=[cu (bQ ps) x]from rfl]at d|-;have g:=(d _ vq).1;generalize cu (bQ ps) x=j at g|-;show(de gs t ((j,1,0)::(if 1<k then[(j,k-1,gs∘j)]else[]))).Pairwise _;rw[qp,W0 g s,Int.sub_zero];by_cases c:gs∘j<=t
  .rw[vd c];split
   .rw[qp,ZK,append_nil,AB (show gs∘j<=t from c),<-List.append_assoc];erw[Mc (λa u=>?_) (by split<;>simp)];have:a=(j,gs∘j):=by
     rcases vh.mp u with z | z
     .exact vo.mp z
     .split at z
      .exact vo.mp z
      .exact nomatch z
    rw[this];rwa[vA _]
   .exact pairwise_singleton _ _
  .rw[vc c];have z:de gs t (if 1<k then[(j,k-1,gs∘j)]else[])=[]:=by
    split
    .exact Kj λq w=>by rw[vo.mp w];show t<gs∘j;lia
    .rfl
   rw[z];rwa[pairwise_singleton _ _]
 | row xs=>rw[e]at d;rwa[Ey d]
 | side xs=>
  let⟨q,f⟩:=N.s.sd i p xs o e;rw[e]at d f;show(de gs t ((cM ps (.side xs)).map λj=>(j,1,0))).Pairwise _;rw[Kh (λk m=>(d k m).1) s];erw[pairwise_map.mpr ((Ct f).imp λ{a b} h=>?_)];have r:∀j:Nat,(if gs∘j<=t then(j,gs∘j)else(j,t)).1=j:=λj=>by split<;>rfl
  intro q;rw[r,r];rwa[h]
 | hold n=>rwa[.nil]
 | ring x n=>rwa[.nil]
 | rise x v n=>rwa[.nil]
def MQ{i:Nat}{p:Str×Fm}(b:ps[i]?⊂p){x:Nat×Int}(h:x∈de gs t (cH ps gs i)):x.1∈cM ps p.2:=by
 let⟨q,a,e⟩:=wO h;unfold cH at a;rw[b]at a;rw[e];rwa[kP a]
def CP(N:Sn ls ps gs hs):∀{i:Nat} {t:Int} {x:Nat×Int},i<⇑ps->x∈reach ps gs i t->∀k∈hs.getD x.1 [],k∈hs.getD i []:=by
 intro i
 induction i using Nat.strongRecOn with
 | ind i ih=>
  intro t x c a k b;by_cases h:gs∘i<=t\/cH ps gs i=[]
  .rw[Jb h]at a;rw[vo.mp a]at b;rwa[b]
  .rw[JE N.s.w h]at a;let⟨y,e,a⟩:=mem_flatMap.mp a;have f:=Qe N.s.w e;have d:=vz c;rwa[((N.m i _ _ d (wp N.s N.hl c)).2 k).mpr (.inl #[y.1,MQ d e,ih y.1 f ⋯ a k b])]
def Iv(N:Sn ls ps gs hs):∀{i:Nat} {t:Int},i<⇑ps->0<=t->(reach ps gs i t).Pairwise (Dj gs hs):=by
 intro i
 induction i using Nat.strongRecOn with
 | ind i ih=>
  intro t l r;by_cases h:gs∘i<=t\/cH ps gs i=[]
  .rw[Jb h];rwa[pairwise_singleton _ _]
  .rw[JE N.s.w h];refine List.pairwise_flatMap.mpr #[λa c=>?_,(MR N l r).imp_of_mem λ{a b} c j d x g y o z k m f=>?_]
   .have:=Qe N.s.w c;rwa[ih a.1 this ⋯ (km (λq n=>N.m9 n) c)]
   .have s:=Qe N.s.w c;have u:=Qe N.s.w j;have p:iW gs a=false:=by
     cases e:iW gs a with
     | false=>rfl
     | true=>
      rw[Jb (.inl (of_decide_eq_true e))]at g
      simp_all
    rwa[d p k (CP N ⋯ g k m) (CP N ⋯ o k f)]
noncomputable def me(ls:L4)(ps:N1)(h:L5)(x:Nat×Int):L5:=match ps[x.1]? with
 | some (_,.rise y v n)=>h.set (cu (bQ ls) y) (Rp.ramp (h∘(cu (bQ ls) y)) v n x.2)
 | _=>h
def AF{h:L5}{x:Nat×Int}(c:iW gs x=true):fQ ls ps gs E h x=cx (E.getD x.1 []) h:=by
 unfold fQ;rw[vd (of_decide_eq_true c)];rfl
def AG{h:L5}{x:Nat×Int}(c:iW gs x=false):fQ ls ps gs E h x=me ls ps h x:=by
 unfold fQ;rw[vc (of_decide_eq_false c)];rfl
theorem CT{k:Nat}{v:Int}:∀{es:Np} {h:L5},(∀q∈es,q.1.toNat≠k)->cx es (h.set k v)=(cx es h).set k v
 | [],_,_=>rfl
 | q::r,h,n=>by
  rw[Q2,Q2,List.set_comm _ _ (n q vq).symm];rwa[CT λy a=>n y (vp _ a)]
theorem Xj{k:Nat}:∀{es:Np} {h:L5},(∀q∈es,q.1.toNat≠k)->(cx es h).getD k 0=h∘k
 | [],_,_=>rfl
 | q::r,h,n=>by
  rw[Q2,Xj λy a=>n y (vp _ a),vy,vy,List.getElem?_set_ne (n q vq)]
def IM(N:Sn ls ps gs hs)(b:⇑E=⇑ps)(c:c9 ls ps E)(hi:i<⇑ps)(a:q∈E.getD i []):q.1∈hs.getD i []:=by
 have:=N.s.mv _ (by simp_all) (En b c) i hi;rw[<-this,vy,vv,vz ⋯];rw[vy,vz ⋯]at a;rwa[vK.mpr #[q,a,rfl]]
def IA(N:Sn ls ps gs hs)(o:⇑E=⇑ps)(i:c9 ls ps E){x y:Nat×Int}(k:x.1<⇑ps)(l:y.1<⇑ps)(a:iW gs x=false)(c:iW gs y=true)(d:Dj gs hs x y)(h:L5) :
  fQ ls ps gs E (fQ ls ps gs E h x) y=fQ ls ps gs E (fQ ls ps gs E h y) x:=by
 rw[AF c,AF c,AG a,AG a];unfold me;split
 .rename_i nm z v n hp;have j:((cu (bQ ls) z:Nat):Int)∈hs.getD x.1 []:=((N.m x.1 _ _ hp (wp N.s N.hl k)).2 _).mpr (.inr #[z,v,n,rfl,rfl]);have g:∀q∈E.getD y.1 [],q.1.toNat≠cu (bQ ls) z:=λq f e=>by
   have b:=(kF N.s.w ⋯ i y.1 q f).1;have m:=IM N o i l f;rw[show q.1=((cu (bQ ls) z:Nat):Int) by lia]at m;rwa[d a _ j m]
  rw[CT g,Xj g]
 .rfl
noncomputable def gv(ls:L4)(ps:N1)(gs:L5)(E:L0)(t:Int):L5:=((reach ps gs (⇑ps-1) t).filter (iW gs)).foldl (λh x=>cx (E.getD x.1 []) h) (ls.map (·.2))
def Gn{x:Nat×Int}{y:Str}{v n:Int}{nm:Str}(a:ps[x.1]?⊂(nm,.rise y v n)):d0 ps gs x=true:=by
 unfold d0 cH;rw[a];rfl
def Gm{x:Nat×Int}{y:Str}{n:Int}{nm:Str}(a:ps[x.1]?⊂(nm,.ring y n)):d0 ps gs x=true:=by
 unfold d0 cH;rw[a];rfl
def FD(N:Sn ls ps gs hs)(o:⇑E=⇑ps)(q:c9 ls ps E)(r:0<=t){P:L3}(l:P.filter (d0 ps gs)=(reach ps gs (⇑ps-1) t).filter λx=>!iW gs x) :
  P.foldl (me ls ps) (gv ls ps gs E t)=cJ ls ps gs E t:=by
 have s:=N.ne;have i:∀x∈reach ps gs (⇑ps-1) t,x.1<⇑ps:=λx e=>Kc N.s.w ⋯ e
 rw[<-KQ (p:=d0 ps gs) (λx Z c h=>?_),l]
 .unfold cJ gv;rw[<-KP (p:=iW gs) (f:=fQ ls ps gs E) ((Iv N (show ⇑ps-1<⇑ps by lia) r).imp_of_mem λ{a b} m n d j k h=>IA N o q (i a m) (i b n) j k d h)];rw[Z2 (f:=fQ ls ps gs E) (g:=me ls ps) λx e h=>AG (by simpa using(vP.mp e).2)];rw[Z2 (f:=fQ ls ps gs E) (g:=λh x=>cx (E.getD x.1 []) h) λx e h=>AF (vP.mp e).2]
 .unfold me;split
  .rename_i hp;rw[Gn hp]at c;cases c
  .rfl
def FC(N:Sn ls ps gs hs){P:L3}(a:P.filter (d0 ps gs)=(reach ps gs (⇑ps-1) t).filter λx=>!iW gs x):P.flatMap (cO ps)=cP ps gs t:=by
 have d:=N.ne;unfold cP;rw[<-YI (p:=d0 ps gs) (λx q c=>?_),a,YI λx b c=>?_]
 .have c:iW gs x=true:=by simpa using c
  have c:=of_decide_eq_true c;have:=(N.g (Kc N.s.w (show ⇑ps-1<⇑ps by lia) b)).1;unfold cO;split
  .rw[vc ⋯]
  .rfl
 .unfold cO;split
  .rename_i hp;rw[Gm hp]at c;cases c
  .rfl
end
structure cZ(C:Addr)(H:Hp)(a:Addr)(z:Sa)(ls:L4)(ps:N1)(gs:L5)(E:L0):Prop where
 ob:∃dx,H a⊂(.ins C dx (iV z))
 hd:H z.d⊂(.dK (fZ (bQ ls)))
 hf:H z.f⊂(.lst ((ls.map (·.2)).map V.int))
 ho:H z.o⊂(.lst (z.fb.map V.ref))
 fo:bX (λa p=>cf H a p.2) z.fb ps
 hs:H z.s⊂(.lst (gs.map V.int))
 hl:H z.l⊂(.lst (z.la.map V.ref))
 el:⇑E=⇑ps
 ea:mh H z.la E
 eo:c9 ls ps E
 hp:H z.p⊂(.lst (z.pa.map V.ref))
 pa:nQ H z.pa (ps.map λp=>cW gs p.2 (cM ps p.2))
def cZ.same{C:Addr}{H H':Hp}{a:Addr}{z:Sa}{ls:L4}{ps:N1}{gs:L5}{E:L0}(A:cZ C H a z ls ps gs E)(s:bU H H'):cZ C H' a z ls ps gs E:=
 #[A.ob.imp λg h=>s _ _ h,s _ _ A.hd,s _ _ A.hf,s _ _ A.ho,bX.mono A.fo λa p h=>cf.same s h,s _ _ A.hs,s _ _ A.hl,A.el,bX.mono A.ea λa e ⟨c,d,f⟩=>#[c,s _ _ d,bX.mono f λb q h=>s _ _ h],A.eo,
  s _ _ A.hp,bX.mono A.pa λa e ⟨c,d,f⟩=>#[c,s _ _ d,bX.mono f λb q h=>s _ _ h]]
inductive iI(C:Addr)(vs:N2)(H:Hp)(Q:VK)(xk:XK):Prop
 | mk (a dx b pl pp las pas ls ps gs hs):vs=[.ref a,.ref b]->H a⊂(.ins C dx [])->cE H b pl pp las pas ls ps->Sn ls ps gs hs->(∀(z:Sa) (E:L0) (H':Hp),(∀c u,c≠a->H c⊂u->H' c⊂u)->cZ C H' a z ls ps gs E->Q .cV H')->iI C vs H Q xk
inductive fC(C:Addr)(vs:N2)(H:Hp)(Q:VK)(xk:XK):Prop
 | mk (a z) (ls:L4) (ps:N1) (gs hs E t):vs=[.ref a,.int t]->cZ C H a z ls ps gs E->Sn ls ps gs hs->0<=t->t<=gs∘(⇑ps-1)->(∀(l:Addr) (H':Hp),bU H H'->H l=none->H' l⊂(.lst ((cJ ls ps gs E t).map V.int))->⇑(cJ ls ps gs E t)=⇑ls->Q (.ref l) H')->fC C vs H Q xk
inductive g6(C:Addr)(vs:N2)(H:Hp)(Q:VK)(xk:XK):Prop
 | mk (a z ls) (ps:N1) (gs hs E t):vs=[.ref a,.int t]->cZ C H a z ls ps gs E->Sn ls ps gs hs->0<=t->t<=gs∘(⇑ps-1)->(∀(l:Addr) (H':Hp),bU H H'->H l=none->H' l⊂(.lst ((cP ps gs t).map V.str))->⇑(cP ps gs t)<=5000->Q (.ref l) H')->g6 C vs H Q xk
def cf.put{H H':Hp}{a:Addr}{f:Fm}(k:∀b xs,H b⊂.tup xs->H' b⊂.tup xs)(h:cf H a f):cf H' a f:=by
 cases f with
 | row ps=>let⟨c,d,e⟩:=h;rwa[c,k _ _ d,k _ _ e]
 | side ps=>let⟨c,d,e⟩:=h;rwa[c,k _ _ d,k _ _ e]
 | hold n=>rwa[k _ _ h]
 | ring x n=>rwa[k _ _ h]
 | rise x v n=>rwa[k _ _ h]
 | again k' x=>rwa[k _ _ h]
theorem EB{a:Type}{f:a->Nat}:∀{l:List a},(∀x∈l,1<=f x)->⇑l<=(l.map f).sum
 | [],_=>vb _
 | x::r,h=>by
  have c:=h x vq;have d:=EB (l:=r) λy b=>h y (vp _ b)
  rw[v9,uz,vQ];lia
section
variable{ls:L4}{ps:N1}{gs:L5}{E:L0}{D:L3}{x:Nat×Int}
noncomputable def mL(ls:L4)(gs:L5)(E:L0)(D:L3):L5:=(D.filter (iW gs)).foldl (λh x=>cx (E.getD x.1 []) h) (ls.map (·.2))
def Wu(h:iW gs x=false):mL ls gs E (if d0 ps gs x=true then D++[x]else D)=mL ls gs E D:=by
 split
 .unfold mL;rw[filter_append,filter_cons_of_neg (by rw[h];decide)];show(D.filter (iW gs)++[]).foldl _ _=_;rw[append_nil]
 .rfl
def Wv(h:iW gs x=true):mL ls gs E (D++[x])=cx (E.getD x.1 []) (mL ls gs E D):=by
 unfold mL;rw[filter_append,filter_cons_of_pos h,foldl_append];rfl
def Xa(W:dX ls ps){i:Nat}{t:Int}(c:t<gs∘i):1+((de gs t (cH ps gs i)).map λx=>nodes ps gs x.1 x.2).sum<=nodes ps gs i t:=by
 by_cases e:cH ps gs i=[]
 .rw[e,ka (.inr e)];rwa[vb _]
 .rw[WC W (λh=>h.elim (λz=>⋯) e)];rwa[vb _]
end
structure sY(ls:L4)(ps:N1)(gs:L5)(E:L0)(t0:Int)(H H':Hp)(p1 p2 p4:Addr)(pas tas:L7)(D P S:L3):Prop where
 sm:bU H H'
 e1:H' p1⊂(.lst ((mL ls gs E D).map V.int))
 e2:H' p2⊂(.lst (pas.map V.ref))
 eT:H' p4⊂(.lst (tas.map V.ref))
 gP:fk H' pas P
 gT:fk H' tas S
 inv:D++S.reverse.flatMap (λx=>reach ps gs x.1 x.2)=reach ps gs (⇑ps-1) t0
 hS:∀x∈S,x.1<⇑ps/\0<=x.2
 hP:P.filter (d0 ps gs)=D.filter λx=>!iW gs x
 bP:∀x∈P,x.1<⇑ps/\0<=x.2/\x.2<gs∘x.1
 Ai:⇑P+(S.map λx=>nodes ps gs x.1 x.2).sum<=5000
 ll:⇑(mL ls gs E D)=⇑ls
 hb:∀h∈mL ls gs E D,0<=h/\h<=10^18
section
variable{L:L8}{fs:List Fn}{M:L1}{gs:L5}{names:L8}{n:Nat}{E:L0}
def QI:dR L names fs gs E j (gs∘j) h=cx (E.getD j []) h:=by
 unfold dR;rw[Jb (.inl (vA _))];show iU L fs gs E h (j,gs∘j)=_;unfold iU;rw[vd (vA _)]
def yx(a:1<=gs∘j):eD names fs gs j (gs∘j)=[]:=by
 unfold eD;rw[Jb (.inl (vA _)),flatMap_cons,List.flatMap_nil,append_nil];unfold cO;split
 .rw[vc (show¬gs∘j=0 by lia)]
 .rfl
def zO(D:dO L fs M gs)(b:⇑fs<=⇑names)(d:names.Nodup)(a:fs[k]?⊂f):cH (bS names fs) gs k=cW gs (cL names f) f.js:=by
 have js:=(D.f k f a).1.js.2;have e:=(vx.mp a).1;unfold cH;rw[J1 a];show cW _ _ _=_;rw[zm b d λj c=>by have:=js j c;lia]
theorem K4:∀{is:L6} {b:Int} {i:Nat},(∀k∈is,1<=gs∘k/\gs∘k<=10^60)->b+((is.take i).map λj=>gs∘j).sum<=t->de gs t (cK gs is b)=((is.take i).map λj=>(j,gs∘j))++de gs t (cK gs (is.drop i) (b+((is.take i).map λj=>gs∘j).sum))
 | [],b,i,_,h=>by simp[cK,ZK]
 | j::r,b,0,_,h=>by
  show _=[]++de gs t (cK gs (j::r) (b+0));rw[Int.add_zero,nil_append]
 | j::r,b,i+1,hg,h=>by
  have g:=hg j vq;have d:∀l:L6,(∀k∈l,1<=gs∘k)->0<=(l.map λj=>gs∘j).sum:=λl=>by
   induction l with
   | nil=>intro q;rwa[vA _]
   | cons x l ih=>
    intro c;rw[v9,uz];have:=ih λk a=>c k (vp _ a)
    have:=c x vq;lia
  have e:=d (r.take i) λk a=>(hg k (vp _ (mem_of_mem_take a))).1
  rw[List.take_succ_cons,v9,uz]at h;rw[Ke hg ⋯,vd ⋯,List.take_succ_cons,v9,v9,uz,List.drop_succ_cons,K4 (is:=r) (i:=i) (λk a=>hg k (vp _ a)) ⋯,cons_append,Int.add_assoc]
def Cs(p:1<=gs∘j)(k1:1<=k)(a:0<=t)(r:t<=k*gs∘j) :
  (t/gs∘j=0/\de gs t ((j,1,0)::(if 1<k then[(j,k-1,gs∘j)]else[]))=[(j,t%gs∘j)])\/
  (1<=t/gs∘j/\t/gs∘j<k/\∃z,(z=[]\/z=[(j,gs∘j)])/\de gs t ((j,1,0)::(if 1<k then[(j,k-1,gs∘j)]else[]))=(j,gs∘j)::z++[(j,t%gs∘j)])\/
  (t/gs∘j=k/\∃z,(z=[]\/z=[(j,gs∘j)])/\de gs t ((j,1,0)::(if 1<k then[(j,k-1,gs∘j)]else[]))=(j,gs∘j)::z):=by
 rw[qp,W0 p a,Int.sub_zero];generalize b:gs∘j=g at *;have u:=Int.emod_add_mul_ediv t g;have v:=ve t (show g≠0 by lia);have w:=vf t (show 0<g by lia);have s:t/g<=k:=by
  have:=Int.ediv_le_ediv (show 0<g by lia) r;rw[Int.mul_ediv_cancel _ (show g≠0 by lia)]at this;rwa[this]
 have m:(t-g)/g=t/g-1:=by
  have:=Int.add_mul_ediv_right t (-1) (show g≠0 by lia);have e:t + -1*g=t-g:=⋯
  rw[e]at this;lia
 by_cases c:g<=t
 case neg=>
  have i:t/g=0:=Int.ediv_eq_zero_of_lt a ⋯;have q:t%g=t:=Int.emod_eq_of_lt a ⋯;erw[.inl #[i,?_]];rw[vc c,q];split
  .rw[qp,ZK,DW (show t<g by lia)];rfl
  .rw[ZK];rfl
 have l:1<=t/g:=by
  have:=Int.ediv_le_ediv (show 0<g by lia) c;rw[Int.ediv_self (show g≠0 by lia)]at this;rwa[this]
 rw[vd c];have n:ov gs t (j,k-1,g)=t/g-1:=by
  unfold ov;show(if k-1<(t-g)/gs∘j then k-1 else(t-g)/gs∘j)=_;rw[b,m];split<;>lia
 have o:t-g-(t/g-1)*g=t%g:=by
  have:(t/g-1)*g=g*(t/g)-g:=by rw[Int.sub_mul,Int.one_mul,Int.mul_comm]
  lia
 by_cases f:1<k
 .rw[vd f,qp,ZK,append_nil,AB (show g<=t from c),n];show _\/(_/\_/\∃z,_/\[(j,g)]++((if 0<t/g-1 then[(j,gs∘j)]else[])++(if t/g-1<k-1 then[(j,t-g-(t/g-1)*gs∘j)]else[]))=_)\/(_/\∃z,_/\[(j,g)]++((if 0<t/g-1 then[(j,gs∘j)]else[])++(if t/g-1<k-1 then[(j,t-g-(t/g-1)*gs∘j)]else[]))=_);rw[b,o];have d:(if 0<t/g-1 then[(j,g)]else[])=[]\/(if 0<t/g-1 then[(j,g)]else[])=[(j,g)]:=by split<;>simp
  by_cases h:t/g=k
  .refine .inr (.inr #[h,_,d,?_]);rw[vc (show¬t/g-1<k-1 by lia),append_nil];rfl
  .refine .inr (.inl #[l,⋯,_,d,?_]);rw[vd (show t/g-1<k-1 by lia)];rfl
 .rw[vc f,ZK];rwa[.inr (.inr #[⋯,[],.inl rfl,rfl])]
noncomputable def Fn.comp:Fn->Prop
 | .row _=>True
 | .side _=>True
 | .again _ _=>True
 | _=>False
def KR{js:L6}{h:L5}:(js.map λj=>(j,gs∘j)).foldl (λh x=>dR L names fs gs E x.1 x.2 h) h=js.foldl (λh j=>cx (E.getD j []) h) h:=by
 rw[List.foldl_map];rwa[Z2 λj q h=>QI]
theorem wK:∀{js:L6},(∀j∈js,1<=gs∘j)->((js.map λj=>(j,gs∘j)).flatMap λx=>eD names fs gs x.1 x.2)=[]
 | [],_=>rfl
 | j::r,h=>by
  rw[v9,flatMap_cons,wK λk a=>h k (vp _ a)];show eD names fs gs j (gs∘j)++[]=[]
  rw[yx (h j vq)];rfl
def XF(D:dO L fs M gs)(s:⇑fs<=⇑names)(I:names.Nodup)(p:L.Nodup)(T:⇑L<=8)(y:⇑fs<=61)(e:EN L fs n E)(H:n<=⇑fs){k:Nat}(R:k<n){f:Fn}(A:fs[k]?⊂f)(o:f.comp){t:Int}(K:0<=t)(t1:t<=gs∘k)(h:L5) :
  dR L names fs gs E k t h=(oI names fs gs k t).foldl (λh x=>dR L names fs gs E x.1 x.2 h) h/\eD names fs gs k t=(oI names fs gs k t).flatMap λx=>eD names fs gs x.1 x.2:=by
 have G:bQ (L.map λx=>(x,(0:Int)))=L:=by
  unfold bQ;rw[v6];rwa[map_id _]
 have W:dX (L.map λx=>(x,(0:Int))) (bS names fs):=dO.wf (by rw[G];rwa[D]) s I (by rw[G];rwa[p]) (by rw[vt];rwa[T]) y;let⟨u,Z,l⟩:=D.f k f A;have js:=u.js.2;have d:∀j∈f.js,1<=gs∘j/\gs∘j<=10^60:=λj b=>D.g j (by have:=js j b;lia)
 have q:=zO D s I A;have Y:∀x v m,f≠.rise x v m:=λx v m h=>by rw[h]at o;rwa[o]
 by_cases c:gs∘k<=t
 case neg=>
  have X:cH (bS names fs) gs k≠[]:=by
   rw[q];cases f with
   | row is=>
    let⟨a,_⟩:=u;cases is with
    | nil=>rwa[uf rfl a]
    | cons j r=>rwa[cons_ne_nil _ _]
   | side is=>
    let⟨a,_⟩:=u;cases is with
    | nil=>rwa[uf a nofun]
    | cons j r=>rwa[cons_ne_nil _ _]
   | again m j=>rwa[cons_ne_nil _ _]
   | hold m=>rwa[o.elim]
   | ring x m=>rwa[o.elim]
   | rise x v m=>rwa[o.elim]
  have N:=JE W (t:=t) (show¬(gs∘k<=t\/cH (bS names fs) gs k=[])from λz=>z.elim c X);unfold dR eD oI;rw[N,Wo,xI];rwa[rfl,rfl]
 have O:t=gs∘k:=⋯
 subst O;have lhs:=QI (L:=L) (names:=names) (fs:=fs) (gs:=gs) (E:=E) (j:=k) (h:=h);have rhs:eD names fs gs k (gs∘k)=[]:=yx (D.g k ⋯).1;rw[lhs,rhs,e.all D p H R A Y h];unfold oI;rw[q];cases f with
 | row is=>
  have d:∀j∈is,1<=gs∘j/\gs∘j<=10^60:=d;have l:gs∘k=(is.map λj=>gs∘j).sum:=l;have w:de gs (gs∘k) (cW gs (cL names (.row is)) is)=is.map λj=>(j,gs∘j):=by
   show de gs _ (cK gs is 0)=_;rw[K4 (is:=is) (i:=⇑is) d (by rw[v5];lia),v5,List.drop_length];show _++de gs _ []=_;rw[ZK,append_nil]
  show _=(de gs (gs∘k) (cW gs (cL names (.row is)) is)).foldl _ h/\_=(de gs (gs∘k) (cW gs (cL names (.row is)) is)).flatMap _;rw[w,KR,wK (js:=is) λj b=>(d j b).1];rwa[rfl,rfl]
 | side is=>
  have d:∀j∈is,1<=gs∘j/\gs∘j<=10^60:=d;let⟨_,l⟩:=l;have w:de gs (gs∘k) (cW gs (cL names (.side is)) is)=is.map λj=>(j,gs∘j):=by
   show de gs _ (is.map λj=>(j,1,0))=_;rw[Kh (is:=is) (λj b=>(d j b).1) K];rwa[map_congr_left λj b=>by rw[vd (l j b)]]
  show _=(de gs (gs∘k) (cW gs (cL names (.side is)) is)).foldl _ h/\_=(de gs (gs∘k) (cW gs (cL names (.side is)) is)).flatMap _;rw[w,KR,wK (js:=is) λj b=>(d j b).1];rwa[rfl,rfl]
 | again m j=>
  have l:gs∘k=m*gs∘j:=l;let⟨U,_,b⟩:=u;have F:=(d j vq).1;have em:gs∘k/gs∘j=m:=by rw[l,Int.mul_ediv_cancel _ (show gs∘j≠0 by lia)]
  obtain⟨Q,B⟩:∃g,fs[j]?⊂g:=#[_,vz ⋯]
  have C:=WT (e j Q ⋯ B).1 (e.pos D p H (show j<n by lia)) h;show[j].foldl _ h=(de gs (gs∘k) ((j,1,0)::(if 1<m then[(j,m-1,gs∘j)]else[]))).foldl _ h/\[]=(de gs (gs∘k) ((j,1,0)::(if 1<m then[(j,m-1,gs∘j)]else[]))).flatMap _;rcases Cs F U K (show gs∘k<=m*gs∘j by lia)with⟨z,_⟩ | ⟨_,z,_⟩ | ⟨_,z,S,P⟩
  .lia
  .lia
  .rw[P];have J:eD names fs gs j (gs∘j)=[]:=yx F;rcases S with rfl | rfl
   .refine#[QI.symm,?_];show[]=eD names fs gs j (gs∘j)++[];rw[J];rfl
   .constructor
    .show cx (E.getD j []) h=dR L names fs gs E j (gs∘j) (dR L names fs gs E j (gs∘j) h);rw[QI,QI,C]
    .show[]=eD names fs gs j (gs∘j)++(eD names fs gs j (gs∘j)++[]);rw[J];rfl
 | hold m=>rwa[o.elim]
 | ring x m=>rwa[o.elim]
 | rise x v m=>rwa[o.elim]
end
noncomputable def fh(c k:Int):Int:=(c%10^30+k*k+1)*314159265358979323846264338327%(10^30+57)
def kR(c k:Int):0<=fh c k/\fh c k<10^30+57:=#[ve _ nofun,vf _ nofun]
def wW:Sp:=λvs H Q q=>∃c k:Int,vs=[.int c,.int k]/\0<=k/\k<=10^20/\Q (.int (fh c k)) H
noncomputable def fF(x y m:Int):Int×Int×Int:=if 0<x then(x%m,x/m,y)else(fh ((y+m)*314159265358979323846264338327%(10^30+57)) m/1000%m,x,fh ((y+m)*314159265358979323846264338327%(10^30+57)) m)
def Jv(h:1<=m):0<=(fF x y m).1/\(fF x y m).1<m:=by
 unfold fF;split<;>rwa[ve _ ⋯,vf _ ⋯]
inductive fE(vs:N2)(H:Hp)(Q:VK)(xk:XK):Prop
 | mk (p x y m):vs=[.ref p,.int m]->H p⊂(.lst [.int x,.int y])->1<=m->m<=10^20->0<=y->y<10^30+57->(∀H',Ex p H H'->H' p⊂(.lst [.int (fF x y m).2.1,.int (fF x y m).2.2])->Q (.int (fF x y m).1) H')->fE vs H Q xk
noncomputable def BY:Str:=Str.ofString "abcdefghijklnopqrstuvwxyz"
noncomputable def iX(p k:Nat):Str:=Txt.slice "mm" none (some (p:Int))++(⟨#[BY.cps.toList.getD (k%25) 97]⟩:Str)++(⟨#[if k<25 then 110 else 111]⟩:Str)++Txt.slice "mm" (some (p:Int)) none
inductive gJ(vs:N2)(H:Hp)(Q:VK)(xk:XK):Prop
 | mk (p k):vs=[.int (p:Nat),.int (k:Nat)]->p<3->k<50->Q (.str (iX p k)) H->gJ vs H Q xk
def B6:⇑(Txt.slice x a b)<=⇑x:=IK
noncomputable def ff(nm:L8)(gs:L5):List (Key×V):=(nm.zip gs).map λp=>(Sum.inr p.1,.int p.2)
def Zc(h:⇑nm=⇑gs):(ff nm gs).map (·.1)=nm.map Sum.inr:=by
 unfold ff;rw[v6];have e:(Function.comp (λx:Key×V=>x.1) λp:Str×Int=>((Sum.inr p.1:Key),V.int p.2))=Function.comp (λx:Str=>(Sum.inr x:Key)) Prod.fst:=rfl;rw[e,<-v6,List.map_fst_zip ⋯]
def kJ(c:nm.Nodup)(h:⇑nm=⇑gs)(b:j<⇑nm):cX (ff nm gs) (Sum.inr (nm.getD j ⟨#[]⟩))⊂(.int (gs∘j)):=by
 erw[WY (j:=j) (by rw[Zc h];rwa[pairwise_map.mpr (c.imp λh e=>h (Sum.inr.inj e))]) ?_];have a:j<⇑gs:=⋯
 have e:(nm.zip gs)[j]?⊂(nm[j],gs[j]):=List.getElem?_zip_eq_some.mpr #[vz b,vz a];unfold ff;rw[vv,e,vy,vy,vz b,vz a];rfl
inductive gH(vs:N2)(H:Hp)(Q:VK)(xk:XK):Prop
 | mk (fa d f) (nm:L8) (gs:L5) (L M):vs=[.ref fa,.ref d]->cf H fa (cL nm f)->H d⊂(.dK (ff nm gs))->nm.Nodup->⇑nm=⇑gs->dS L M ⇑nm f->(∀j,j<⇑nm->1<=gs∘j/\gs∘j<=10^60)->(∀(g:Int) (H':Hp),bU H H'->fN gs f g->Q (.int g) H')->gH vs H Q xk
def nR(H:Hp)(as:L7)(Ms:List L8):Prop:=bX (λa ks=>H a⊂(.lst (ks.map V.str))) as Ms
noncomputable def uk:Fn->L6
 | .row is=>is
 | .side is=>is
 | _=>[]
def mS(Ms:List L8)(f:Fn)(ks:L8):Prop:=ks.Nodup/\∀s,s∈ks↔(∃j∈f.js,s∈Ms.getD j [])\/∃h n,f = .rise s h n
inductive fK(vs:N2)(H:Hp)(Q:VK)(xk:XK):Prop
 | mk (fa nl ml) (mas:L7) (f) (nm:L8) (Ms:List L8) (L M):vs=[.ref fa,.ref nl,.ref ml]->cf H fa (cL nm f)->H nl⊂(.lst (nm.map V.str))->H ml⊂(.lst (mas.map V.ref))->nR H mas Ms->nm.Nodup->Ms.length=⇑nm->⇑nm<=20->dS L M ⇑nm f->(∀ks∈Ms,⇑ks<=8)->(∀(l:Addr) (ks:L8) (H':Hp),bU H H'->H l=none->H' l⊂(.lst (ks.map V.str))->mS Ms f ks->⇑ks<=80->Q (.ref l) H')->fK vs H Q xk
theorem XO(n:Str):∀hs:L8,nZ (.str n) (hs.map V.str)=decide (n∈hs)
 | []=>by simp[nZ]
 | h::r=>by
  have a:=XO n r;unfold nZ at a|-;rw[v9,any_cons,a];have e:mK (.str h) (.str n)=decide (h=n):=by
   show(h==n)=_
   lia
  rw[e,Bool.eq_iff_iff]
  grind
theorem lP:∀hs:L8,(hs.map V.str).all eJ=true
 | []=>rfl
 | h::r=>by rw[v9,all_cons,lP r];rfl
def tO{xs:L8}(d:xs.Nodup){j:Nat}(g:j<⇑xs):(xs.map V.str)[j]?⊂(.str (xs.getD j ⟨#[]⟩))/\mK (.str (xs.getD j ⟨#[]⟩)) (.str (xs.getD j ⟨#[]⟩))=true/\∀(n:Nat) (z:V),n<j->(xs.map V.str)[n]?⊂z->mK z (.str (xs.getD j ⟨#[]⟩))=false:=by
 have h:xs[j]?⊂(xs.getD j ⟨#[]⟩):=by simp_all
 erw[by rw[vv,h];rfl,(by show(xs.getD j ⟨#[]⟩==xs.getD j ⟨#[]⟩)=true;rwa[beq_self_eq_true _]),λn z i c=>?_];rw[vv]at c;let⟨w,f,rfl⟩:=vg.mp c;show(w==xs.getD j ⟨#[]⟩)=false;erw[beq_eq_false_iff_ne.mpr λe=>?_]
 rw[<-e]at h;have a:=jV d f;have b:=jV d h;lia
noncomputable def hH(L ks:L8):L5:=((List.range ⇑L).filter λi=>decide (L.getD i ⟨#[]⟩∈ks)).map λi:Nat=>(i:Int)
def yt:k∈hH L ks↔∃(i:Nat) (s:Str),L[i]?⊂s/\s∈ks/\k=(i:Int):=by
 unfold hH;constructor
 .intro h;let⟨i,d,rfl⟩:=vK.mp h;let⟨a,c⟩:=vP.mp d;have b:=v4.mp a;erw[i,L[i],vz b,?_,rfl];have:=of_decide_eq_true c;rw[vy,vz b]at this;rwa[this]
 .rintro⟨i,s,a,c,rfl⟩;have b:=(vx.mp a).1;erw[vK.mpr #[i,vP.mpr #[v4.mpr b,vG ?_],rfl]];rw[vy,a];rwa[c]
def NJ:(hH L ks).Pairwise (· < ·):=by
 unfold hH;erw[pairwise_map.mpr ?_];erw[(List.Pairwise.filter _ (List.pairwise_lt_range (n:=⇑L))).imp λ{a b} h=>?_]
 lia
def rx(L:L8)(Ms:List L8):Prop:=∀ks∈Ms,ks.Nodup/\∀s∈ks,s∈L
def rx.at'(I:rx L Ms)(j:Nat):∀s∈Ms.getD j [],s∈L:=λs a=>by
 rw[vy]at a;cases e:Ms[j]? with
 | none=>rw[e]at a;cases a
 | some ks=>rw[e]at a;rwa[(I ks (vm e)).2 s a]
def Ia{a b:L8}(d:a.Nodup)(h:∀x∈a,x∈b):⇑a<=⇑b:=by
 induction a generalizing b with
 | nil=>rwa[va _]
 | cons x r ih=>
  rw[uo]at d;have f:=h x vq;have:=ih (b:=b.erase x) d.2 λy g=>by
   have c:y≠x:=λe=>d.1 (e▸g)
   rwa[(List.mem_erase_of_ne c).mpr (h y (vp _ g))]
  rw[List.length_erase_of_mem f]at this;have:0<⇑b:=List.length_pos_of_mem f;rw[vQ];lia
def rx.len{L:L8}{Ms:List L8}(I:rx L Ms){ks:L8}(h:ks∈Ms):⇑ks<=⇑L:=Ia (I ks h).1 (I ks h).2
def k7{L:L8}{Ms:List L8}(j:Nat):(Ms.map (hH L)).getD j []=hH L (Ms.getD j []):=by
 rw[vy,vy,vv];cases Ms[j]? with
 | none=>
  show[]=hH L [];erw[(List.eq_nil_iff_forall_not_mem.mpr λk a=>?_).symm];let⟨q,q,q,h,q⟩:=yt.mp a;cases h
 | some x=>rfl
def NL(h:∀s∈ks,s∈L)(n:ks≠[]):hH L ks≠[]:=λz=>by
 let⟨s,a⟩:=List.exists_mem_of_ne_nil ks n;let⟨i,b⟩:=List.mem_iff_getElem?.mp (h s a);have:=yt.mpr #[i,s,b,a,rfl];rw[z]at this;cases this
def i9(Ms:List L8)(is:L6):Prop:=(∀j∈is,Ms.getD j []≠[])/\is.Pairwise λa b=>∀s∈Ms.getD a [],¬s∈Ms.getD b []
def i9.n(I:rx L Ms)(h:i9 Ms is):nG (Ms.map (hH L)) is:=by
 erw[λj g=>?_,h.2.imp λ{a b} d k f c=>?_]
 .rw[k7];rwa[NL (I.at' j) (h.1 j g)]
 .rw[k7]at f c;let⟨i,s,n,o,rfl⟩:=yt.mp f;let⟨l,r,p,q,e⟩:=yt.mp c;have m:i=l:=⋯
  simp_all
def mS.n(h:mS Ms f ks):kb L (Ms.map (hH L)) f (hH L ks):=by
 erw[NJ,λk=>?_];rw[yt];constructor
 .rintro⟨i,s,a,b,rfl⟩;rcases(h.2 s).mp b with⟨j,c,g⟩ | ⟨v,n,e⟩
  .exact .inl #[j,c,by rw[k7];rwa[yt.mpr #[i,s,a,g,rfl]]]
  .exact .inr #[s,v,n,i,e,a,rfl]
 .rintro(⟨j,c,d⟩ | ⟨x,v,n,i,e,a,rfl⟩)
  .rw[k7]at d;let⟨i,s,a,b,rfl⟩:=yt.mp d;rwa[i,s,a,(h.2 s).mpr (.inl #[j,c,b]),rfl]
  .exact#[i,x,a,(h.2 x).mpr (.inr #[v,n,e]),rfl]
def mS.E5{L:L8}{Ms:List L8}{f:Fn}{ks:L8}{M:L1}{n:Nat}(I:rx L Ms)(p:dS L M n f)(h:mS Ms f ks):ks.Nodup/\∀s∈ks,s∈L:=by
 erw[h.1,λs c=>?_];rcases(h.2 s).mp c with⟨j,_,b⟩ | ⟨v,n,e⟩
 .exact I.at' j s b
 .subst e;let⟨⟨i,a⟩,q⟩:=p;rwa[vm a]
def dO.Ag{L:L8}{fs:List Fn}{M:L1}{gs:L5}{f:Fn}{ks:L5}{g:Int}(D:dO L fs M gs)(q:dS L M ⇑fs f)(t:kb L M f ks)(u:fN gs f g)(v:1<=g/\g<=10^60):dO L (fs++[f]) (M++[ks]) (gs++[g]):=by
 have r:=D.ml;have n:=D.gl;erw[by simp[r],by simp[n],λi p d=>?_,λi k=>?_]
 .by_cases k:i<⇑fs
  .rw[vB k]at d;let⟨a,b,c⟩:=D.f i p d;have l:=a.js.2;rw[QH ⋯,QH ⋯];rwa[a.ext ⋯,b.ext λj h=>by have:=l j h;lia,c.ext λj h=>by have:=l j h;lia]
  .rw[vC ⋯]at d;have o:i=⇑fs:=by
    have:=(vx.mp d).1;simp at this;lia
   subst o;rw[ur]at d;have e:p=f:=(vL d).symm;subst e;have l:=q.js.2;have s:(M++[ks]).getD ⇑fs []=ks:=by rw[<-r];rwa[Zb]
   have m:(gs++[g]).getD ⇑fs 0=g:=by rw[<-n];rwa[Zb]
   rw[s,m];rwa[q.ext ⋯,t.ext λj h=>by have:=l j h;lia,u.ext λj h=>by have:=l j h;lia]
 .rw[vn]at k;have k:i<⇑fs+1:=k;by_cases c:i<⇑fs
  .rw[QH ⋯];rwa[D.g i c]
  .have e:i=⇑fs:=⋯
   subst e;have m:(gs++[g]).getD ⇑fs 0=g:=by rw[<-n];rwa[Zb]
   rw[m];rwa[v]
def IZ(p:dS L M n f)(l:fN gs f g)(b:∀j,j<n->1<=gs∘j):1<=g:=by
 cases f with
 | hold m=>let⟨c,o⟩:=p;have e:g=m:=l;lia
 | ring x m=>let⟨c,o,Z⟩:=p;have e:g=m:=l;lia
 | rise x v m=>let⟨Z,Z,Z,c,o⟩:=p;have e:g=m:=l;lia
 | row is=>
  let⟨c,o,d⟩:=p;have e:g=(is.map λj=>gs∘j).sum:=l;have q:∀a:L6,(∀j∈a,j<n)->0<=(a.map λj=>gs∘j).sum:=λa=>by
   induction a with
   | nil=>rwa[λZ=>vA _]
   | cons j a ih=>
    intro h;rw[v9,uz];have:=b j (h j vq);have:=ih λi r=>h i (vp _ r)
    lia
  cases is with
  | nil=>rwa[uf rfl c]
  | cons j a=>
   rw[e,v9,uz];have u:=b j (d j vq);have:=q a λi r=>d i (vp _ r)
   lia
 | side is=>
  let⟨Z,Z,d,Z⟩:=p;let⟨⟨j,t,e⟩,Z⟩:=l;have:=b j (d j t);lia
 | again k j=>
  let⟨c,o,d⟩:=p;have e:g=k*gs∘j:=l;have s:=b j d;have:=Int.mul_le_mul c s nofun ⋯;lia
def fN.uniq(h:fN gs f g)(h':fN gs f g'):g=g':=by
 cases f with
 | side is=>
  let⟨⟨j,b,e⟩,m⟩:=h;let⟨⟨c,a,i⟩,d⟩:=h';have:=m c a;have:=d j b;lia
 | hold n=>rwa[Eq.trans h (Eq.symm h')]
 | ring x n=>rwa[Eq.trans h (Eq.symm h')]
 | rise x v n=>rwa[Eq.trans h (Eq.symm h')]
 | row is=>rwa[Eq.trans h (Eq.symm h')]
 | again k j=>rwa[Eq.trans h (Eq.symm h')]
def mY(xs:L8):PyData.eqv (.list (xs.map PyData.str)) (.list [])=decide (xs=[]):=by
 cases xs<;>simp[PyData.eqv,PyData.eqvAll]
def nu{xs:L8}(h:∀x∈xs,Ws.fR x=true):SeqAt.shaped (.list (xs.map PyData.str))=true:=(iT.lst (n:=0) (CU h)).ok nofun
def B3(n:Str)(a:L8):(if false=true then !nZ (.str n) (a.map V.str)else nZ (.str n) (a.map V.str))=decide (n∈a):=by rw[vc nofun,XO]
def Cv{xs:N2}{k:Int}(h:∀v∈xs,∃w:Str,v = .str w/\Ws.fR w=true)(k0:0<=k)(k1:k<(⇑xs:Int)):∃w:Str,eZ xs k⊂.str w/\Ws.fR w=true:=by
 obtain⟨j,rfl⟩:∃j:Nat,k=(j:Int):=#[k.toNat,⋯]
 have a:j<⇑xs:=⋯
 let⟨w,e,b⟩:=h xs[j] (getElem_mem a);rwa[w,L2.jS (by simp_all),b]
def C6{xs:N2}{lo hi:Nu}{v:V}(h:v∈gQ xs lo hi):v∈xs:=List.mem_of_mem_drop (mem_of_mem_take h)
def Zx{nm:L8}{j:Nat}(h:j<⇑nm):eZ (nm.map V.str) ((j:Nat):Int)⊂(.str (nm.getD j ⟨#[]⟩)):=by
 erw[L2.jS ?_];rw[vv,vy,vz h];rfl
structure oD(nl ml:Addr)(mas:L7)(L nm:L8)(Ms:List L8)(H:Hp):Prop where
 en:H nl⊂(.lst (nm.map V.str))
 em:H ml⊂(.lst (mas.map V.ref))
 am:nR H mas Ms
 il:rx L Ms
 ml:Ms.length=⇑nm
 tU:⇑nm<=20
 l8:⇑L<=8
 w:∀x∈nm,Ws.fR x=true
 lw:∀x∈L,Ws.fR x=true
def oD.same{d c:Addr}{b:L7}{L nm:L8}{Ms:List L8}{H H':Hp}(N:oD d c b L nm Ms H)(s:bU H H'):oD d c b L nm Ms H':=
 #[s _ _ N.en,s _ _ N.em,N.am.mono λa x h=>s _ _ h,N.il,N.ml,N.tU,N.l8,N.w,N.lw]
def oD.mv{i h:Addr}{a:L7}{L nm:L8}{Ms:List L8}{H:Hp}(N:oD i h a L nm Ms H){j:Nat}(f:j<⇑nm):∃b,a[j]?⊂b/\H b⊂(.lst ((Ms.getD j []).map V.str))/\⇑(Ms.getD j [])<=8/\∀x∈Ms.getD j [],Ws.fR x=true:=by
 have e:Ms[j]?⊂(Ms.getD j []):=by rw[vy,vz (by rw[N.ml];rwa[f])];rfl
 let⟨b,c,d⟩:=N.am.get e;have:=N.il.len (vm e);have:=N.l8;rwa[b,c,d,⋯,λx g=>N.lw x (N.il.at' j x g)]
def uQ(H:Hp)(bd:Addr)(b0 b1 b2 b3 b4:Int):Prop:=H bd⊂(.lst [.int b0,.int b1,.int b2,.int b3,.int b4])/\1<=b0/\b0<=10^18/\1<=b1/\b1<=10^18/\1<=b2/\b2<=10^18+1/\1<=b3/\b3<=10^18/\1<=b4/\b4<=10^60
def rM{a c b2 b3 b4 i:Int}(d:1<=a/\a<=10^18)(e:1<=c/\c<=10^18)(f:0<=i)(g:i<2):∃b:Int,eZ [V.int a,V.int c,V.int b2,V.int b3,V.int b4] i⊂(V.int b)/\1<=b/\b<=10^18:=by
 have:i=0\/i=1:=⋯
 rcases this with rfl | rfl
 .exact#[a,rfl,d]
 .exact#[c,rfl,e]
structure sy(pl:Addr)(las:L7)(ls:L4)(H:Hp):Prop where
 el:H pl⊂(.lst (las.map V.ref))
 la:bX (ft H) las ls
 l1:1<=⇑ls
def sy.same{H H':Hp}(N:sy pl las ls H)(s:bU H H'):sy pl las ls H':=#[s _ _ N.el,N.la.mono λa x h=>s _ _ h,N.l1]
def Ew{H:Hp}(h:Q (.int (10^12)) H):rI nH (λi j=>.int (i^j.toNat)) (.int 10) (.int 12) H Q:=#[10,12,rfl,rfl,#[by decide,by decide,by decide],h]
inductive gG(vs:N2)(H:Hp)(Q:VK)(xk:XK):Prop
 | mk (nl d) (nm:L8) (gs:L5) (most):vs=[.ref nl,.ref d,.int most]->H nl⊂(.lst (nm.map V.str))->H d⊂(.dK (ff nm gs))->nm.Nodup->⇑nm=⇑gs->1<=⇑nm->⇑nm<=20->(∀j,j<⇑nm->1<=gs∘j/\gs∘j<=most)->(∀(b:Addr) (is:L6) (H':Hp),bU H H'->H' b⊂(.tup ((is.map λj=>nm.getD j ⟨#[]⟩).map V.str))->is≠[]->⇑is<=5->(∀j∈is,j<⇑nm)->Q (.ref b) H')->gG vs H Q xk
noncomputable def lN(n:Int)(len t:Nat):Nat:=(((len:Int)-1-(t:Int)*(1+n%3))%(len:Int)).toNat
noncomputable def eK(n:Int)(len:Nat)(Ms:List L8)(ro:Bool):Nat->L6×L8
 | 0=>([],[])
 | t+1=>if ro=true then(if(t:Int)<1+n/3%5 then((eK n len Ms ro t).1++[lN n len t],(eK n len Ms ro t).2)else eK n len Ms ro t)
  else if Ms.getD (lN n len t) []≠[]/\((Ms.getD (lN n len t) []).filter λs=>decide (s∈(eK n len Ms ro t).2))=[]/\(eK n len Ms ro t).1.length<4 then((eK n len Ms ro t).1++[lN n len t],(eK n len Ms ro t).2++Ms.getD (lN n len t) [])else eK n len Ms ro t
section
variable{n:Int}{len:Nat}{Ms:List L8}{ro:Bool}
def AH(h:1<=len):lN n len t<len:=by
 unfold lN;have a:=ve ((len:Int)-1-(t:Int)*(1+n%3)) (show(len:Int)≠0 by lia);have b:=vf ((len:Int)-1-(t:Int)*(1+n%3)) (show(0:Int)<(len:Int) by lia);lia
def Il(t:Nat):eK n len Ms ro (t+1)=if ro=true then(if(t:Int)<1+n/3%5 then((eK n len Ms ro t).1++[lN n len t],(eK n len Ms ro t).2)else eK n len Ms ro t)
  else if Ms.getD (lN n len t) []≠[]/\((Ms.getD (lN n len t) []).filter λs=>decide (s∈(eK n len Ms ro t).2))=[]/\(eK n len Ms ro t).1.length<4 then((eK n len Ms ro t).1++[lN n len t],(eK n len Ms ro t).2++Ms.getD (lN n len t) [])else eK n len Ms ro t:=rfl
theorem A4(h:1<=len):∀(t:Nat) (j:Nat),j∈(eK n len Ms ro t).1->j<len
 | 0,j,hj=>nomatch hj
 | t+1,j,hj=>by
  have a:=A4 h t j;unfold eK at hj;split at hj
  .split at hj
   .rcases vh.mp hj with z | z
    .exact a z
    .rw[vo.mp z];rwa[AH h]
   .exact a hj
  .split at hj
   .rcases vh.mp hj with z | z
    .exact a z
    .rw[vo.mp z];rwa[AH h]
   .exact a hj
theorem Et(b:∀j,⇑(Ms.getD j [])<=8):∀t:Nat,(eK n len Ms ro t).2.length<=8*(eK n len Ms ro t).1.length
 | 0=>vb _
 | t+1=>by
  have a:=Et b t;have c:=b (lN n len t);unfold eK;split
  .split
   .rw[vn];show(eK n len Ms ro t).2.length<=8*(_+1);lia
   .exact a
  .split
   .rw[vn,vn];show _<=8*(_+1);lia
   .exact a
theorem wP:∀t:Nat,(eK n len Ms ro t).1.length<=t/\(eK n len Ms ro t).1.length<=5
 | 0=>#[vb _,va _]
 | t+1=>by
  let⟨a,b⟩:=wP t;have d:=vf (n/3) (show(0:Int)<5 by decide);unfold eK;split
  .split
   .rename_i c;rw[vn];rwa[by show _+1<=_;lia,by show _+1<=5;lia]
   .lia
  .split
   .rename_i c;rw[vn];have:=c.2.2;rwa[by show _+1<=_;lia,by show _+1<=5;lia]
   .lia
theorem Es(a:ro=true):∀t:Nat,0<t->(eK n len Ms ro t).1≠[]
 | 0,h=>uf h ⋯
 | t+1,_=>by
  have b:=ve (n/3) (show(5:Int)≠0 by decide);unfold eK;rw[vd a];split
  .simp_all
  .rename_i c;rwa[Es a t ⋯]
theorem Er(g:ro=false):∀t:Nat,i9 Ms (eK n len Ms ro t).1/\∀s,s∈(eK n len Ms ro t).2↔∃j∈(eK n len Ms ro t).1,s∈Ms.getD j []
 | 0=>#[#[(λj h=>nomatch h),.nil],λs=>#[(λh=>nomatch h),λ⟨j,h,_⟩=>nomatch h]]
 | t+1=>by
  let⟨e,f⟩:=Er g t;unfold eK;rw[vc (by rw[g];rwa[vF])];split
  .rename_i c;let⟨i,k,q⟩:=c;refine#[#[λj o=>?_,List.pairwise_append.mpr #[e.2,pairwise_singleton ..,λa l b m s p d=>?_]],λs=>?_]
   .rcases vh.mp o with z | z
    .exact e.1 j z
    .rw[vo.mp z];rwa[i]
   .rw[vo.mp m]at d;have:s∈(Ms.getD (lN n len t) []).filter λs=>decide (s∈(eK n len Ms ro t).2):=vP.mpr #[d,vG ((f s).mpr #[a,l,p])]
    rw[k]at this;cases this
   simp_all
  .exact#[e,f]
end
inductive gZ(vs:N2)(H:Hp)(Q:VK)(xk:XK):Prop
 | mk (n nl ml mas L) (nm:L8) (Ms kd):vs=[.int n,.ref nl,.ref ml,.str kd]->oD nl ml mas L nm Ms H->1<=⇑nm->0<=n->n<=10^40->(kd = "row"\/kd = "side")->(∀(b:Addr) (H':Hp),bU H H'->H' b⊂(.tup (((eK n ⇑nm Ms (decide (kd = "row")) ⇑nm).1.map λj=>nm.getD j ⟨#[]⟩).map V.str))->Q (.ref b) H')->gZ vs H Q xk
inductive iF(vs:N2)(H:Hp)(Q:VK)(xk:XK):Prop
 | mk (n nl ml pl bd mas las ls) (nm:L8) (Ms:List L8) (b0 b1 b2 b3 b4):vs=[.int n,.ref nl,.ref ml,.ref pl,.ref bd]->oD nl ml mas (bQ ls) nm Ms H->sy pl las ls H->uQ H bd b0 b1 b2 b3 b4->0<=n->n<=10^40->(∀(a:Addr) (f:Fn) (H':Hp),bU H H'->cf H' a (cL nm f)->dS (bQ ls) (Ms.map (hH (bQ ls))) ⇑nm f->Q (.ref a) H')->iF vs H Q xk
def JS(a:0<=y)(b:y<10^30+57):0<=(fF x y m).2.2/\(fF x y m).2.2<10^30+57:=by
 unfold fF;split
 .exact#[a,b]
 .exact kR _ _
def Off(p:Addr)(H0 H:Hp):Prop:=∀c u,H0 c⊂u->c≠p/\H c⊂u
def Off.ex{a H H':Hp}(o:Off p a H)(x:Ex p H H'):Off p a H':=λc u h=>#[(o c u h).1,x c u (o c u h).1 (o c u h).2]
def Off.same{a H:Hp}(o:Off p a H):bU a H:=λc u h=>(o c u h).2
inductive gr(vs:N2)(H:Hp)(Q:VK)(xk:XK):Prop
 | mk (p nl ml bd x y kd H0 mas L) (nm:L8) (Ms:List L8) (b0 b1 b2 b3 b4):vs=[.ref p,.int kd,.ref nl,.ref ml,.ref bd]->H p⊂(.lst [.int x,.int y])->0<=y->y<10^30+57->Off p H0 H->oD nl ml mas L nm Ms H0->1<=⇑nm->uQ H0 bd b0 b1 b2 b3 b4->(∀(a:Addr) (f:Fn) (H':Hp),Ex p H H'->cf H' a (cL nm f)->dS L (Ms.map (hH L)) ⇑nm f->Q (.ref a) H')->gr vs H Q xk
inductive iG(vs:N2)(H:Hp)(Q:VK)(xk:XK):Prop
 | mk (p nl ml pl bd x y H0 mas las ls) (nm:L8) (Ms:List L8) (b0 b1 b2 b3 b4):vs=[.ref p,.ref nl,.ref ml,.ref pl,.ref bd]->H p⊂(.lst [.int x,.int y])->0<=y->y<10^30+57->Off p H0 H->oD nl ml mas (bQ ls) nm Ms H0->sy pl las ls H0->uQ H0 bd b0 b1 b2 b3 b4->(∀(a:Addr) (f:Fn) (H':Hp),Ex p H H'->cf H' a (cL nm f)->dS (bQ ls) (Ms.map (hH (bQ ls))) ⇑nm f->Q (.ref a) H')->iG vs H Q xk
def DT:∀p,p<3->(decide ((List.range 50).map (iX p)).Nodup&&((List.range 50).map (iX p)).all λx=>Ws.fR x)=true:=by trivial
def DU(d:p<3)(hi:i<50)(c:j<50)(e:iX p i=iX p j):i=j:=by
 have h:=DT p d;rw[Bool.and_eq_true,decide_eq_true_eq]at h;have a:((List.range 50).map (iX p))[i]?⊂(iX p i):=by rw[vv,List.getElem?_range hi];rfl
 have b:((List.range 50).map (iX p))[j]?⊂(iX p i):=by rw[vv,List.getElem?_range c,e];rfl
 have f:=jV h.1 a;have g:=jV h.1 b;lia
def ES(a:p<3)(hi:i<50):Ws.fR (iX p i)=true:=by
 have h:=DT p a
 simp_all
noncomputable def nE(p m:Nat):L8:=(List.range m).map (iX p)
def Ei(h:j<m):(nE p m)[j]?⊂(iX p j):=by unfold nE;rw[vv,List.getElem?_range h];rfl
def Co:nE p (m+1)=nE p m++[iX p m]:=by unfold nE;rw[range_succ,vj];rfl
def Ej(c:p<3)(j:m<=9):(nE p m).Nodup/\∀x∈nE p m,Ws.fR x=true:=by
 unfold nE;erw[pairwise_map.mpr (nodup_range.imp_of_mem λ{a b} d f n e=>n (DU c (by have:=v4.mp d;lia) (by have:=v4.mp f;lia) e)),λx h=>?_]
 .let⟨i,g,rfl⟩:=vK.mp h;have:=v4.mp g;rwa[ES c ⋯]
noncomputable def nD(st c m k:Nat):Nat:=if k=c then k%m else st+k
noncomputable def n6(p st c m:Nat):L8:=(List.range 17).map λk=>iX p (nD st c m k)
def DC{p st c m:Nat}:⇑(n6 p st c m)=17:=by unfold n6;simp_all
def DA{p st c m k:Nat}(h:k<17):(n6 p st c m).getD k ⟨#[]⟩=iX p (nD st c m k):=by
 unfold n6;rw[vy,vv,List.getElem?_range h];rfl
def Ep{p st c m:Nat}(f:p<3)(q:1<=m)(r:m<=st)(h:st<=9):(n6 p st c m).Nodup/\∀x∈n6 p st c m,Ws.fR x=true:=by
 have b:∀k,k<17->nD st c m k<50:=λk o=>by
  unfold nD;have:=Nat.mod_lt k (show 0<m by lia);split<;>lia
 unfold n6;erw[pairwise_map.mpr (nodup_range.imp_of_mem λ{x y} a d n e=>?_),λx a=>?_]
 .have a:=v4.mp a;have d:=v4.mp d;have:=DU f (b x a) (b y d) e;unfold nD at this;have j:=Nat.mod_lt x (show 0<m by lia);have l:=Nat.mod_lt y (show 0<m by lia);erw[n ?_];split at this<;>split at this<;>lia
 .let⟨i,g,rfl⟩:=vK.mp a;rwa[ES f (b i (v4.mp g))]
def Fb{names:L8}{fs:List Fn}{f:Fn}:bS names (fs++[f])=bS names fs++[(names.getD ⇑fs ⟨#[]⟩,cL names f)]:=by
 unfold bS;rw[vn,vS,range_succ,vj];congr 1
 .refine map_congr_left λj a=>?_
  rw[QH (v4.mp a)]
 .rw[v9,Zb];rfl
def WW(h:dS L M n f):cL (names.take n) f=cL names f:=by
 have g:∀j,j<n->(names.take n).getD j ⟨#[]⟩=names.getD j ⟨#[]⟩:=λj a=>by
  simp_all
 have b:=h.js.2;cases f with
 | row is=>rwa[congrArg Fm.row (map_congr_left λj a=>g j (b j a))]
 | side is=>rwa[congrArg Fm.side (map_congr_left λj a=>g j (b j a))]
 | again k j=>rwa[congrArg (Fm.again k) (g j (b j vq))]
 | hold n=>rfl
 | ring x n=>rfl
 | rise x v n=>rfl
def HC(h:⇑nm=⇑gs):ff (nm++[x]) (gs++[g])=ff nm gs++[(Sum.inr x,.int g)]:=by
 unfold ff;rw[List.zip_append h,vj];rfl
def Dr(h:⇑nm=⇑gs)(n:x∉nm):putK (ff nm gs) (Sum.inr x) (.int g)=ff (nm++[x]) (gs++[g]):=by
 rw[HC h,Z8];rw[Zc h]
 simp_all
def Dq(h:⇑nm=⇑gs):⇑(ff nm gs)=⇑nm:=by
 unfold ff
 simp_all
structure ny(pl nl ml d pp:Addr)(las pas mas:L7)(ls:L4)(names:L8)(fs:List Fn)(Ms:List L8)(gs:L5)(b4:Int)(H:Hp):Prop where
 n:oD nl ml mas (bQ ls) (names.take ⇑fs) Ms H
 l:sy pl las ls H
 ed:H d⊂(.dK (ff (names.take ⇑fs) gs))
 ep:H pp⊂(.lst (pas.map V.ref))
 pa:bX (cU H) pas (bS names fs)
 dk:dO (bQ ls) fs (Ms.map (hH (bQ ls))) gs
 gb:∀j,j<⇑fs->gs∘j<=b4
 fl:⇑fs<=⇑names
def ny.same{H H':Hp}(B:ny pl nl ml d pp las pas mas ls names fs Ms gs b4 H)(s:bU H H'):ny pl nl ml d pp las pas mas ls names fs Ms gs b4 H':=
 #[B.n.same s,B.l.same s,s _ _ B.ed,s _ _ B.ep,B.pa.mono λa x h=>cU.same s h,B.dk,B.gb,B.fl]
structure pH(pl nl ml pp bd:Addr)(mas:L7):Prop where
 ln:pl≠nl
 lm:pl≠ml
 lp:pl≠pp
 nm:nl≠ml
 np:nl≠pp
 mp:ml≠pp
 bn:bd≠nl
 bm:bd≠ml
 bp:bd≠pp
 ma:∀a∈mas,a≠nl/\a≠ml/\a≠pp
def pH.add(S:pH pl nl ml pp bd mas)(h:l≠nl/\l≠ml/\l≠pp):pH pl nl ml pp bd (mas++[l]):=
 #[S.ln,S.lm,S.lp,S.nm,S.np,S.mp,S.bn,S.bm,S.bp,λa b=>by
  rcases vh.mp b with z | z
  .exact S.ma a z
  .rw[vo.mp z];rwa[h]]
def ny.add{pl n m d o J fa l c:Addr}{q i b:L7}{ls:L4}{names:L8}{fs:List Fn}{Ms:List L8}{gs:L5}{b4 g:Int}{f:Fn}{ks:L8}{H H':Hp}(B:ny pl n m d o q i b ls names fs Ms gs b4 H)(S:pH pl n m o J b)
  (U:cf H fa (cL names f)) (pre:dS (bQ ls) (Ms.map (hH (bQ ls))) ⇑fs f) (G:mS Ms f ks) (F:fN gs f g) (O:g<=b4) (I:b4<=10^60) (fn:⇑fs<⇑names) (Z:⇑fs<20) (nw:∀x∈names,Ws.fR x=true)
  (k:∀x u,x≠m->x≠n->x≠o->x≠d->H x⊂u->H' x⊂u) (s:H' m⊂(.lst ((b++[l]).map V.ref))) (M:H' l⊂(.lst (ks.map V.str))) (t:H' n⊂(.lst ((names.take (⇑fs+1)).map V.str)))
  (v:H' o⊂(.lst ((i++[c]).map V.ref))) (K:H' c⊂(.tup [.str (names.getD ⇑fs ⟨#[]⟩),.ref fa])) (L:H' d⊂(.dK (ff (names.take (⇑fs+1)) (gs++[g])))) :
  ny pl n m d o q (i++[c]) (b++[l]) ls names (fs++[f]) (Ms++[ks]) (gs++[g]) b4 H':=by
 have N:=B.n;have C:∀c p,H c⊂.tup p->H' c⊂(.tup p):=λc p h=>k c _ (Jz h N.em λz=>by cases z) (Jz h N.en λz=>by cases z) (Jz h B.ep λz=>by cases z) (Jz h B.ed λz=>by cases z) h
 have E:∀{c p},c≠m->c≠n->c≠o->H c⊂.lst p->H' c⊂(.lst p):=λQ R T h=>k _ _ Q R T (Jz h B.ed λz=>by cases z) h
 have r:⇑(fs++[f])=⇑fs+1:=by rw[vn];rfl
 have D:=B.dk;have Y:=G.E5 N.il pre;have P:=IZ pre F λj y=>(D.g j y).1
 have gl:=D.gl;erw[#[?_,s,?_,?_,?_,?_,N.l8,λx X=>nw x (mem_of_mem_take X),N.lw],#[E S.lm S.ln S.lp B.l.el,B.l.la.mono λa x h=>C _ _ h,B.l.l1],?_,v,?_,?_,λj y=>?_,⋯]
 .rw[r];rwa[t]
 .refine bX.snoc ?_ M;rwa[bX.mM N.am λa w ks h=>E (S.ma a w).2.1 (S.ma a w).1 (S.ma a w).2.2 h]
 .intro A W;rcases vh.mp W with z | z
  .exact N.il A z
  .rw[vo.mp z];rwa[Y]
 .have:=N.ml;rw[vi]at this|-;rw[vn,r];show _+1=_;lia
 .rw[vi];lia
 .rw[r];rwa[L]
 .rw[Fb];rwa[bX.snoc (B.pa.mono λa x h=>cU.keep C h) #[fa,K,cf.keep C U]]
 .rw[vj];rwa[D.Ag pre G.n F #[P,⋯]]
 .rw[r]at y;by_cases z:j<⇑fs
  .rw[QH ⋯];rwa[B.gb j z]
  .have e:j=⇑gs:=⋯
   subst e;rw[Zb];rwa[O]
inductive fy(K:cp)(vs:N2)(H:Hp)(Q:VK)(xk:XK):Prop
 | mk (a bd) (ns:L5) (many b0 b1 b2 b3 b4):vs=[.ref a,.int (many:Nat),.ref bd]->bV K H a (ns.map V.int)->⇑ns<=63->2<=many->many<=16->uQ H bd b0 b1 b2 b3 b4->(∀(r b pl pp:Addr) (las pas:L7) (names:L8) (ls:L4) (fs:List Fn) (M:L1) (gs:L5) (H':Hp),bU H H'->H' r⊂(.tup [.ref b,.int (gs∘(⇑fs-1))])->cE H' b pl pp las pas ls (bS names fs)->dO (bQ ls) fs M gs->Sn ls (bS names fs) gs M->⇑fs=many+1->⇑names=17->names.Nodup->(∀x∈names,Ws.fR x=true)->1<=⇑ls->⇑ls<=8->(bQ ls).Nodup->(∀x∈bQ ls,Ws.fR x=true)->pl≠pp->(∀j,j<⇑fs->gs∘j<=b4)->Q (.ref r) H')->fy K vs H Q xk
def ny.book{H:Hp}(B:ny pl nl ml d pp las pas mas ls names fs Ms gs b4 H)(a:H b⊂(.tup [.ref pl,.ref pp])):cE H b pl pp las pas ls (bS names fs):=#[a,B.l.el,B.l.la,B.ep,B.pa]
end Rm
namespace L2
open PySem PySem.Spec PySem.W PyProof.Rows
section
variable{X:Cx}{pins:Ny}{σ:St}{H:Hp}{s:Shared}{tg:Expr}
def Inv.freeze(I:Inv X pins σ H s)(e:H a⊂.dK kvs):∃o,Inv X pins σ (upd H a (.gM o (.dK kvs))) s:=by
 let⟨z,l,t,r,o,k,j,i,g⟩:=(show cm X.prog X.w H s.heap a (.dK kvs)from I.cv a _ e)
 have f:∀b u,H b⊂u->u≠.dK kvs->b≠a:=λb u q d z=>by subst z;rw[e]at q;rwa[d (vL q).symm]
 refine#[o,I.step (h':=s.heap) (g':=s.gens) (d':=s.drawn) (t':=s.toks) (ch:=[]) (λb h=>nomatch h) (λb o Z Z Z e Z=>e) (λb o Z Z Z e Z=>#[o.slots,e]) (λb u Z Z n=>(jh λz=>by subst z;rw[e]at n;cases n).trans n) (λb u Z e=>#[u,e])
  (λb x q=>(jh (f _ _ q λz=>nomatch z)).trans q) (λb u v q=>(jh (f _ _ q λz=>nomatch z)).trans q) (λb w q=>#[#[],by rw[jh (f _ _ q λz=>nomatch z),q];simp]) (λm p=>p) (λb u q=>?_) I.bare]
 by_cases h:b=a
 .subst h;rw[jA]at q;cases q;rwa[i,z,l,t,r,o,k,j,i,g]
 .rw[jh h]at q;rwa[(I.cv b u q).hW (λc v Z q=>q) (λc q=>(jh (f _ _ q λz=>nomatch z)).trans q) λc y q=>(jh (f _ _ q λz=>nomatch z)).trans q]
def uR(as:L7)(H H':Hp):Prop:=(∀b,b∉as->H' b=H b)/\∀b∈as,∀kvs,H b⊂.dK kvs->∃o,H' b⊂(.gM o (.dK kvs))
theorem Inv.i3:∀(as:L7) {H:Hp},Inv X pins σ H s->as.Nodup->(∀b∈as,∃kvs,H b⊂.dK kvs)->∃H',Inv X pins σ H' s/\uR as H H'
 | [],H,I,_,_=>#[H,I,λZ Z=>rfl,λb c=>nomatch c]
 | a::as,H,I,nd,h=>by
  rw[uo]at nd;let⟨kvs,e⟩:=h a vq;let⟨o,g⟩:=I.freeze e;have f:∀b∈as,b≠a:=λb c z=>nd.1 (by rw[<-z];rwa[c])
  let⟨H',i,d,j⟩:=Inv.i3 as g nd.2 λb c=>by
   let⟨k,q⟩:=h b (vp _ c);rwa[k,(jh (f b c)).trans q]
  erw[H',i,λb c=>?_,λb c k q=>?_]
  .rw[d b λz=>c (vp _ z),jh λz=>c (by rw[z];rwa[vq])]
  .rcases mem_cons.mp c with rfl | c
   .rw[e]at q;cases q;rwa[o,(d b nd.1).trans jA]
   .exact j b c k ((jh (f b c)).trans q)
def uD(te:TE):TE:=λσ H Q=>te σ H λv H1=>∃as:L7,as.Nodup/\(∀b∈as,∃kvs,H1 b⊂.dK kvs)/\∀H2,uR as H1 H2->Q v H2
def Ba(h:PE X e te):PE X e (uD te):=by
 intro a s m H Q I q;erw[cC (h a s m H _ I q) λv o z_=>?_];obtain⟨x,n,c,l,f,j,i,k⟩:=z_
 let⟨b,d,g⟩:=c.i3 f j i;rwa[x,b,d,l,k b g]
def sv(a:Addr)(o:Obj)(kvs:List (Key×V)):It:=
 #[λi H=>H a⊂(.gM o (.dK kvs))/\i<⇑kvs,λi H x H'=>H'=H/\∃q,kvs[i]?⊂q/\x=kV q.1,λi H=>H a⊂(.gM o (.dK kvs))/\⇑kvs<=i]
def Wp(I:Inv X pins σ H s)(e:H a⊂(.gM o (.dK kvs)))(d:o.data = .dict es ep):⇑kvs<=sizeLine/\(a==sysModules)=false/\∃vs,KV kvs vs/\s.heap.DictAt (cb X.prog X.w) a vs ep:=by
 let⟨f,z,k,vs,r,l,j,i,b,g,c,h⟩:=(show cm X.prog X.w H s.heap a (.gM o (.dK kvs))from I.cv a _ e)
 rw[f]at b;cases b;rw[d]at c;cases c;rwa[z,k,vs,r,o,es,f,g,d,h]
def Hw{P:Program}{w:World}{K:cp}{tg:Expr}(a it:Addr)(o:Obj)(kvs:List (Key×V))(es:Array DictEntry)(ep:Nat)(N:o.data = .dict es ep):Turn P w K tg (sv a o kvs) [it] it (λi h=>h.IsKeyIter it a i ⇑kvs ep) where
 mem:=by simp
 obj:=λi h f b j=>by
  have e:b=it:=by simpa using j
  subst e;let⟨o,e,c,d⟩:=f;rwa[o,e,λv z=>by rw[d]at z;cases z]
 keep:=λi h n f k=>f.at λo e=>k it (by simp) o e
 item:=by
  intro X D J C M i g s Q H E I p f F;subst D J C;let⟨G,q⟩:=F;let⟨z,Y,vs,l,r⟩:=Wp I G N;have O:=vz q;let⟨y,S,T,_⟩:=l.get O;let⟨t,u,W,x,A,B⟩:=p it (by simp);rw[⇑l]at f;erw[wpAny_pyNext_dict_item f r (k:=y.1) (v:=y.2) S λL n Z m sb=>?_]
  have R:Inv X g Q H {s with heap:=n}:=I.turned (t':=s.toks) (λb o j e=>(sb.2 b j).trans e) t u x A B;erw[L,rfl,letGo_keyiter (s':={s with heap:=n}) m #[kV kvs[i].1,H,R,by rw[T];rwa[M3 Z],#[rfl,_,O,rfl],by rw[⇑l];rwa[m],λb j=>(p b j).1]]
 done:=by
  intro X D J C M i g s Q H E I p f F;subst D J C;let⟨G,q⟩:=F;let⟨z,Y,vs,l,r⟩:=Wp I G N;let⟨t,u,W,x,A,B⟩:=p it (by simp);rw[⇑l]at f q;rwa[wpAny_pyNext_dict_end (I.ok.hd M) f r (vT q) λn U=>#[rfl,I.turned (t':=s.toks) (λb o j e=>U b o j e) t u x A B]]
 self:=λ_ _ _ _ _ f h=>wpAny_pyIter_keyiter f h
def pN(tl:TE):TI:=λσ H R=>tl σ H λx H1=>∃a o kvs,x = .ref a/\H1 a⊂(.gM o (.dK kvs))/\R (sv a o kvs) H1
def LY{l:Expr}{n:TE}(y:PE X l n):PI X tg l (pN n):=by
 intro g s E H R I h;erw[cC (y g s E H _ I h) λv i z_=>?_];obtain⟨x,j,c,C,B⟩:=z_
 let⟨a,o,f,e,m,q⟩:=B;subst e;cases C;let⟨A,Z,Z,Z,Z,F,t,r,d,Z,k,Z⟩:=(show cm X.prog X.w j i.heap a (.gM o (.dK f))from c.cv a _ m)
 rw[A]at d;cases d;let⟨z,u,G,D,p⟩:=Wp c m k;erw[wpAny_pyIter_dict u p ?_];rw[<-⇑D];erw[i⁻¹,[i⁻¹],_,_,j,rfl,c.kept (t':=i.toks) λb o e=>vJ _ e,Hw a _ o f t r k,#[_,Heap.get?_push_size _ rfl,rfl,rfl],λb w=>?_,q];have e:b=i⁻¹:=by simpa using w
 subst e;rwa[c.fY (vb _) (c.cv.fresh (vb _))]
end
def Hy{a:Addr}{o:Obj}{kvs:List (Key×V)}{g:TG}{j:TS}{D:Ends}{b:St}{H:Hp}(c:Nat->St->Hp->Prop)(l:c 0 b H)(s:∀i b H,i<=⇑kvs->c i b H->H a⊂(.gM o (.dK kvs)))
  (t:∀i q b H,kvs[i]?⊂q->c i b H->g (kV q.1) b H λd H2=>j {D with nx:=c (i+1),ct:=c (i+1),bk:=D.nx} d H2) (n:∀b H,c ⇑kvs b H->D.nx b H) :
  ∃W:Nat->Nat->St->Hp->Prop,(∃m,W 0 m b H)/\∀i m b H,W i m b H->
   ((sv a o kvs).stop i H/\D.nx b H)\/((sv a o kvs).go i H/\∃N:St->Hp->Prop,(∀S' H',N S' H'->∃h,h<m/\W (i+1) h S' H')/\∀x H',(sv a o kvs).lI i H x H'->g x b H' λd H2=>j {D with nx:=N,ct:=N,bk:=D.nx} d H2):=by
 erw[λi m b H=>m=⇑kvs-i/\i<=⇑kvs/\c i b H,#[⇑kvs,by simp,va _,l],?_];rintro i m b H ⟨rfl,r,p⟩;have q:=s i b H r p;by_cases f:i<⇑kvs
 .refine .inr #[#[q,f],c (i+1),λS' H' u=>#[⇑kvs-(i+1),⋯,rfl,f,u],λx H' y=>?_];let⟨e,k,y,rfl⟩:=y;subst e;rwa[t i k b _ y p]
 .have e:i=⇑kvs:=⋯
  subst e;rwa[.inl #[#[q,vb _],n b H p]]
section
variable{σ:St}{H:Hp}{Q:VK}
def Bh(h:te σ H λv H1=>∃as:L7,as.Nodup/\(∀b∈as,∃kvs,H1 b⊂.dK kvs)/\∀H2,uR as H1 H2->Q v H2):uD te σ H Q:=h
def Iq{R:It->Hp->Prop}(h:tl σ H λx H1=>∃a o kvs,x = .ref a/\H1 a⊂(.gM o (.dK kvs))/\R (sv a o kvs) H1):pN tl σ H R:=h
end
noncomputable def se(p:Str×V):Key×V:=(Sum.inr p.1,p.2)
theorem oh:∀{as:L7} {kvs:List (Str×V)},⇑as=⇑kvs->(∀(i:Nat) (a:Addr) (q:Str×V),as[i]?⊂a->kvs[i]?⊂q->∃t u,RelV q.2 u/\IsTup h a [.str q.1 t,u].toArray)->
  ∃ps:List (Key×Value),KV (kvs.map se) ps/\⇑ps=⇑kvs/\∀(j:Nat) (kv:Key×Value),ps[j]?⊂kv->∃a key,as[j]?⊂a/\IsTup h a [key,kv.2].toArray/\fU kv.1 key=true
 | [],[],_,_=>#[[],.nil,rfl,λj kv e=>by simp at e]
 | [],_::_,l,_=>by simp at l
 | _::_,[],l,_=>by simp at l
 | a::as,q::kvs,l,f=>by
  let⟨ps,o,p,r⟩:=oh (as:=as) (kvs:=kvs) #v[l] λi a q m n=>f (i+1) a q #v[m] #v[n]
  let⟨t,u,v,e⟩:=f 0 a q rfl rfl;erw[(Sum.inr q.1,u)::ps,.cons #[rfl,v] o,by rw[vQ,p,vQ],λj kv c=>?_];cases j with
  | zero=>simp at c;subst c;rwa[a,_,rfl,e,xU _ _]
  | succ j=>let⟨b,s,d,g,k⟩:=r j kv #v[c];rwa[b,s,#v[d],g,k]
section
variable{X:Cx}
def We(G:X.calm=true):c8 X (.type "dict") (λxs H Q=>∃(p:Addr) (as:L7) (kvs:List (Str×V)),xs=[.ref p]/\H p⊂(.lst (as.map V.ref))/\⇑as=⇑kvs/\
  (∀(i:Nat) (a:Addr) (q:Str×V),as[i]?⊂a->kvs[i]?⊂q->H a⊂(.tup [.str q.1,q.2]))/\∀d,H d=none->Q (.ref d) (upd H d (.dK (cG [] (kvs.map se))))):=by
 intro M s σ H xs us Q I r h;let⟨p,as,kvs,rfl,Z,B,ht,q⟩:=h;let⟨u,rfl,ru⟩:=vals1 r;cases ru;let⟨z,D,n,rv,lv,e⟩:=I.lC Z;have W:=Qv rv;subst W;rw[vt]at z;have J:p<s⁻¹:=vI e;let⟨ps,kp,N,pt⟩:=oh (h:=s.heap) B λi a q S U=>by
  let⟨_,D,r',t'⟩:=I.cv a _ (ht i a q S U);cases r' with
  | cons ra rr=>
   cases rr with
   | cons rb rr=>
    cases rr;let⟨t1,rfl⟩:=ra;rwa[t1,_,rb,t']
 erw[callType_codes (Q₁:=λt g=>t = .ref s⁻¹/\g={s with heap:=s.heap.push {cls:=.type "dict",data:=.dict #[]}}) PySem.F.kt_called_dict (PySem.F.kt_typeCall_dict_1 (.ref p)) PySem.F.entry_dict_init (kt_code_dict_new (.ref p) #[rfl,rfl]) ?_];rintro t g ⟨rfl,rfl⟩;have c:(s.heap.push {cls:=.type "dict",data:=.dict #[]}).DictOf (cb X.prog X.w) s⁻¹ []:=Heap.DictOf.new s.heap;have v:∀b o,s.heap.get? b⊂o->(s.heap.push {cls:=.type "dict",data:=.dict #[]}).get? b⊂o:=λb o e=>vJ _ e
 generalize s.heap.push {cls:=.type "dict",data:=.dict #[]}=h0 at c v;erw[c.typeIs (s:={s with heap:=h0}),PySem.F.args_dict_init_2 _ _,?_];unfold Builtin.«dict.__init__»;erw[uh ?_];unfold Builtin.Dict.selfAndRest;erw[uh (wpAny_notOrdered_dict (c.typeIs (s:={s with heap:=h0})) ?_)];show wpAny (model X.prog X.w) _ (pure (s⁻¹,[Value.ref p])) _ _ _;erw[ug ?_];show wpAny (model X.prog X.w) _ (Builtin.Dict.updateFrom "dict.__init__" s⁻¹ (.ref p) [] .none) _ _ _;unfold Builtin.Dict.updateFrom;erw[uh (wpAny_typeOf (T:="list") #[_,v _ _ e,rfl] ?_)];rw[vd nofun];erw[uh (og (s:={s with heap:=h0}) (v _ _ e) rfl rfl rfl (I.ok.hd G) λm tk K=>?_)];rw[vd (show(none:Nv).isNone=true from rfl)];have f:∀b o,s.heap.get? b⊂o->m.get? b⊂o:=λb o e=>K b o (v b o e)
 have k:m.DictOf (cb X.prog X.w) s⁻¹ []:=c.keep K;have w:s⁻¹<m.objs.size:=by let⟨_,_,_,hg,_⟩:=k;rwa[vI hg]
 have lp:p<m.objs.size:=vZ J w;erw[uh (wpAny_rule ?_)];erw[uh (wpAny_pyIter_list (l:=p) (items:=(as.map Value.ref).toArray) #[_,f _ _ e,rfl,n,rfl] ?_)];erw[ug #[plainId_quiet Z7 _,?_]];refine Al (knd:=cb X.prog X.w) (A:=X.A.in1) (d:=s⁻¹) (it:=m.objs.size) (l:=p) (items:=as.map Value.ref) (res:=.none) (I.ok.hd G) (vE w) (vO J) (vO lp) ps 0 [] _
  #[_,Heap.get?_push_size _ rfl,rfl,rfl] #[_,vJ _ (f _ _ e),rfl,n,rfl] (by rw[vt,B,N,Nat.zero_add]) (λj kv Y=>?_) (k.push _) (by rw[length_nil,N,<-B,Nat.zero_add];rwa[z]) λh2 E k2 x=>?_
 .let⟨a,ky,O,⟨o,F,P⟩,R⟩:=pt j kv Y;have L:a<s⁻¹:=vI F;rwa[a,ky,by rw[Nat.zero_add,vv,O];rfl,#[o,vJ _ (f _ _ F),P],R,vE L,vE (vZ L w)]
 .refine#[rfl,.ref s⁻¹,upd H s⁻¹ (.dK (cG [] (kvs.map se))),I.laid (t':=E) (λb o y=>k2 b o (vE (vI y)) (vE (vZ (vI y) w)) (vJ _ (f _ _ y))) (vb _) ?_,rfl,q _ (I.cv.fresh (vb _))];have hm:=Qg (kvs.map se) [];rw[length_nil,vt]at hm;have C:(s⁻¹==sysModules)=false:=by
   rw[beq_eq_false_iff_ne];rwa[vO I.big]
  rwa[KM ⋯ C (kp.merge .nil) x]
end
end L2
namespace Rm
open PySem PySem.Spec PyProof.Rows L2
theorem xZ:∀{kvs:List (Key×V)} {acc:List (Key×V)} {i:Nat} {k:Key} {v:V},(kvs.map (·.1)).Nodup->kvs[i]?⊂(k,v)->cX (cG acc kvs) k⊂v
 | [],_,_,_,_,_,h=>by simp at h
 | q::r,acc,0,k,v,nd,h=>by
  have h:q=(k,v):=vL h;subst h;rw[v9,uo]at nd;have:∀(r:List (Key×V)) (acc:List (Key×V)),k∉r.map (·.1)->cX (cG acc r) k=cX acc k:=λr=>by
   induction r with
   | nil=>intro acc j;rfl
   | cons p r ih=>
    intro acc h;rw[v9,mem_cons,not_or]at h;show cX (cG (putK acc p.1 p.2) r) k=_;rw[ih _ h.2,C2,vc h.1]
  show cX (cG (putK acc k v) r) k=_;rw[this r _ nd.1,C2,vd rfl]
 | q::r,acc,i+1,k,v,nd,h=>by
  rw[v9,uo]at nd;rwa[xZ (kvs:=r) (acc:=putK acc q.1 q.2) nd.2 #v[h]]
structure zb(H:Hp)(b pl pp:Addr)(las pas:L7)(ls:L4)(names:L8)(fs:List Fn)(M:L1)(gs:L5):Prop where
 bk:cE H b pl pp las pas ls (bS names fs)
 d:dO (bQ ls) fs M gs
 nd:names.Nodup
 fn:⇑fs<=⇑names
 An:⇑fs<=20
 f1:1<=⇑fs
def zb.forms{H:Hp}(B:zb H b pl pp las pas ls names fs M gs):∃g:Nat->Addr,∀(i:Nat) (f:Fn),fs[i]?⊂f->(∀a,pas[i]?⊂a->H a⊂(.tup [.str (names.getD i ⟨#[]⟩),.ref (g i)]))/\cf H (g i) (cL names f):=by
 have:∀i:Nat,∃d:Addr,∀f:Fn,fs[i]?⊂f->(∀a,pas[i]?⊂a->H a⊂(.tup [.str (names.getD i ⟨#[]⟩),.ref d]))/\cf H d (cL names f):=λi=>by
  cases e:fs[i]? with
  | none=>rwa[b,λf h=>by cases h]
  | some f=>
   let⟨a,m,d,k,l⟩:=B.bk.pa.get (J1 (names:=names) e);erw[d,λo j=>?_];cases j;rwa[λn c=>by rw[m]at c;cases c;rwa[k],l]
 rwa[Classical.axiomOfChoice this]
noncomputable def sD(names:L8)(g:Nat->Addr)(n:Nat):List (Str×V):=(List.range n).map λi=>(names.getD i ⟨#[]⟩,.ref (g i))
def D7{g:Nat->Addr}(h:i<n):(sD names g n)[i]?⊂(names.getD i ⟨#[]⟩,.ref (g i)):=by
 unfold sD;rw[vv,List.getElem?_range h];rfl
def IQ{g:Nat->Addr}(c:names.Nodup)(f:n<=⇑names)(h:j<n):cX (cG [] ((sD names g n).map se)) (Sum.inr (names.getD j ⟨#[]⟩))⊂(.ref (g j)):=by
 erw[xZ (i:=j) ?_ (by rw[vv,D7 h];rfl)];rw[v6];unfold sD;rw[v6];erw[pairwise_map.mpr (nodup_range.imp_of_mem λ{x y} a b d e=>d ?_)];have a:=v4.mp a;have b:=v4.mp b;rwa[getD_inj c ⋯ ⋯ (Sum.inr.inj e)]
def dO.Ah{ls:L4}{names:L8}{fs:List Fn}{M:L1}{gs:L5}(D:dO (bQ ls) fs M gs)(z:⇑ls<=8)(t:∀q∈ls,0<=q.2/\q.2<=10^18)(s:∀x∈bQ ls,Ws.fR x=true)
  (A:∀x∈names,Ws.fR x=true) (B:⇑fs<=⇑names) (l:⇑fs<=61):sM ls (bS names fs):=by
 have g:∀{j:Nat},j<⇑fs->Ws.fR (names.getD j ⟨#[]⟩)=true:=λh=>A _ (getD_in ⋯)
 erw[z,λp e=>#[s _ (vK.mpr #[p,e,rfl]),(t p e).1,(t p e).2],by rw[j3];rwa[l],λp e=>?_];let⟨i,w⟩:=List.mem_iff_getElem?.mp e;let⟨f,r,rfl⟩:=qX w;have y:=(vx.mp r).1;have a:=(D.f i f r).1;erw[g y,?_];cases f with
 | hold m=>rwa[by have:=a.1;lia,a.2]
 | ring x m=>rwa[a.2.2,by have:=a.1;lia,a.2.1]
 | rise x v m=>
  let⟨⟨j,d⟩,o,b,c,u⟩:=a;rwa[s x (vm d),o,b,⋯,u]
 | row is=>
  let⟨Z,b,c⟩:=a;erw[by rw[vt];rwa[b],λx n=>?_];let⟨j,d,rfl⟩:=vK.mp n;rwa[g (by have:=c j d;lia)]
 | side is=>
  let⟨Z,b,c,Z⟩:=a;erw[by rw[vt];rwa[b],λx n=>?_];let⟨j,d,rfl⟩:=vK.mp n;rwa[g (by have:=c j d;lia)]
 | again k j=>
  let⟨o,b,c⟩:=a;rwa[⋯,b,g ⋯]
section
variable{ls:L4}{ps qs:N1}{C:Nat->Nat->Prop}{g:Nat->Nat}{gs gs':L5}{hs hs':L1}
def XG(S:oG ls ps gs hs)(m:oG ls qs gs' hs')(R:pB ps qs C g):∀i k,C i k->gs'∘k=gs∘i:=by
 intro i
 induction i using Nat.strongRecOn with
 | ind i ih=>
  intro k e;let⟨o,p⟩:=R.lt i k e;have c:ps[i]?⊂ps[i]:=vz o;have d:qs[k]?⊂qs[k]:=vz p;let⟨t,a,f⟩:=R.f i k _ _ e c d;have n:(cM qs qs[k].2).map (λj=>gs'∘j)=(cM ps ps[i].2).map λj=>gs∘j:=by
   rw[a,v6];rwa[map_congr_left λj h=>ih j (f j h).1 (g j) (f j h).2]
  let⟨q,s⟩:=S.ln i _ c;let⟨r,b⟩:=m.ln k _ d;let⟨v,l⟩:=Eg q;rw[<-s v l];rwa[(b v (by rw[n];rwa[((kL t).2 v).mp l])).symm]
noncomputable def oU(g:Nat->Nat)(q:Pc):Pc:=(g q.1,q.2)
def Hf{is:L6}(h:∀j∈is,gs'∘(g j)=gs∘j):∀b,cK gs' (is.map g) b=(cK gs is b).map (oU g):=by
 induction is with
 | nil=>rwa[λq=>rfl]
 | cons j r ih=>
  intro b;rw[v9,cK,cK,h j vq,ih (λj a=>h j (vp _ a))];rfl
def LU{p q:Fm}{is:L6}(a:iu (λZ Z=>True) p q)(h:∀j∈is,gs'∘(g j)=gs∘j):cW gs' q (is.map g)=(cW gs p is).map (oU g):=by
 cases p with
 | row xs=>
  let⟨b,rfl,Z⟩:=a;rwa[Hf h 0]
 | side xs=>
  let⟨b,rfl,Z⟩:=a;show(is.map g).map _=(is.map _).map _;rw[v6,v6];rfl
 | again m x=>
  let⟨y,rfl,Z⟩:=a;cases is with
  | nil=>rfl
  | cons j r=>
   show(g j,1,0)::(if 1<m then[(g j,m-1,gs'∘(g j))]else[])=((j,1,0)::(if 1<m then[(j,m-1,gs∘j)]else[])).map (oU g);rw[h j vq,v9];split<;>rfl
 | hold n=>
  have:q = .hold n:=a;subst this;show(is.map g).map _=(is.map _).map _;rw[v6,v6];rfl
 | ring x n=>
  have:q = .ring x n:=a;subst this;show(is.map g).map _=(is.map _).map _;rw[v6,v6];rfl
 | rise x v n=>
  have:q = .rise x v n:=a;subst this;show(is.map g).map _=(is.map _).map _;rw[v6,v6];rfl
noncomputable def v3(g:Nat->Nat)(x:Nat×Int):Nat×Int:=(g x.1,x.2)
theorem DX{t:Int}:∀{l:List Pc},(∀q∈l,gs'∘(g q.1)=gs∘q.1)->de gs' t (l.map (oU g))=(de gs t l).map (v3 g)
 | [],_=>rfl
 | q::r,h=>by
  have a:=h q vq;have b:=DX (t:=t) (l:=r) λy e=>h y (vp _ e)
  have d:ov gs' t (oU g q)=ov gs t q:=by
   unfold ov oU;dsimp only;rw[a]
  have c:dE gs' t (oU g q)=(dE gs t q).map λy=>(g y.1,y.2):=by
   unfold dE;rw[d];unfold oU;dsimp only;rw[a];split<;>rfl
  unfold de fj at b|-;rw[v9,filterMap_cons,c,filterMap_cons];cases hp:dE gs t q with
  | none=>rwa[b]
  | some y=>
   have f:y.1=q.1:=Ka hp;show((g y.1,y.2)::_).flatMap (dW gs')=((y::_).flatMap (dW gs)).map (v3 g);rw[flatMap_cons,flatMap_cons,vj,b];congr 1;unfold dW;dsimp only;rw[f,a,vj];congr 1
   .split<;>rfl
   .split<;>rfl
def GO(N:Sn ls ps gs hs)(w:Sn ls qs gs' hs')(R:pB ps qs C g):∀i k,C i k->∀t,∃zs:List ((Nat×Nat)×Int),reach ps gs i t=zs.map (λz=>(z.1.1,z.2))/\reach qs gs' k t=zs.map (λz=>(z.1.2,z.2))/\∀z∈zs,C z.1.1 z.1.2:=by
 have n:=XG N.s w.s R;intro i
 induction i using Nat.strongRecOn with
 | ind i ih=>
  intro k d t;let⟨K,L⟩:=R.lt i k d;have s:ps[i]?⊂ps[i]:=vz K;have A:qs[k]?⊂qs[k]:=vz L;let⟨Q,p,u⟩:=R.f i k _ _ d s A;have a:cH qs gs' k=(cH ps gs i).map (oU g):=by
   unfold cH;rw[s,A];show cW gs' qs[k].2 (cM qs qs[k].2)=_;rw[p];rwa[LU Q λj M=>n j (g j) (u j M).2]
  have m:∀q∈cH ps gs i,q.1∈cM ps ps[i].2:=λq b=>by
   unfold cH at b;rw[s]at b;rwa[kP b]
  have H:de gs' t (cH qs gs' k)=(de gs t (cH ps gs i)).map (v3 g):=by
   rw[a];rwa[DX λq b=>n _ _ (u _ (m q b)).2]
  by_cases c:gs∘i<=t\/cH ps gs i=[]
  .have o:gs'∘k<=t\/cH qs gs' k=[]:=by
    rw[n i k d,a]
    simp_all
   rw[Jb c,Jb o];rwa[[((i,k),t)],rfl,rfl,λz f=>by rw[vo.mp f];rwa[d]]
  .have o:¬(gs'∘k<=t\/cH qs gs' k=[]):=by
    rw[n i k d,a];rintro(z | z)
    .exact c (.inl z)
    .exact c (.inr (List.map_eq_nil_iff.mp z))
   rw[JE N.s.w c,JE w.s.w o,H];have v:∀l:L3,(∀x∈l,x.1<i/\C x.1 (g x.1))->∃zs:List ((Nat×Nat)×Int),(l.flatMap λx=>reach ps gs x.1 x.2)=zs.map (λz=>(z.1.1,z.2))/\((l.map (v3 g)).flatMap λx=>reach qs gs' x.1 x.2)=zs.map (λz=>(z.1.2,z.2))/\∀z∈zs,C z.1.1 z.1.2:=λl=>by
    induction l with
    | nil=>rwa[λZ=>#[[],rfl,rfl,λz f=>nomatch f]]
    | cons x r ihl=>
     intro h;let⟨I,J⟩:=h x vq;let⟨S,B,U,D⟩:=ih x.1 I (g x.1) J x.2;let⟨T,E,F,G⟩:=ihl λy P=>h y (vp _ P)
     erw[S++T,by rw[flatMap_cons,B,E,vj],?_,λz f=>(vh.mp f).elim (D z) (G z)];rw[v9,flatMap_cons,F,vj];congr 1
   erw[v _ λx O=>?_]
   let⟨q,b,e⟩:=wO O;rw[e];rwa[u _ (m q b)]
def Mv(N:Sn ls ps gs hs)(R:pB ps qs C g)(t:1<=⇑qs)(B:dX ls qs):∃gs' hs',Sn ls qs gs' hs'/\gs'∘(⇑qs-1)=gs∘(⇑ps-1):=by
 let⟨gs',hs',o,e,j,A⟩:=IH N.s N.hl N.m R t B;have u:=XG N.s o R;have r:∀(k:Nat) (q:Str×Fm),qs[k]?⊂q->∃(i:Nat) (p:Str×Fm),ps[i]?⊂p/\iu (λZ Z=>True) p.2 q.2:=λk q b=>by
  have h:=(vx.mp b).1;let⟨i,d⟩:=R.ex k h;have s:=(R.lt i k d).1;rwa[i,_,vz s,(R.f i k _ _ d (vz s) b).1]
 erw[gs',hs',#[o,j,A,λk h=>?_,t,N.vX,λk y x v n b=>?_,λk y x m b=>?_],e]
 .let⟨i,d⟩:=R.ex k h;rw[u i k d];rwa[N.g1 i (R.lt i k d).1]
 .let⟨i,p,l,a⟩:=r k _ b;have D:=a.gE.mpr rfl;rwa[N.BI i p.1 x v n (by rw[l];rwa[congrArg some (Prod.ext rfl D)])]
 .let⟨i,p,l,a⟩:=r k _ b;let⟨z,f⟩:=p;cases f with
  | again m' x'=>
   let⟨E,c,Z⟩:=a;cases c;rwa[N.BX i z x' _ l]
  | row xs=>let⟨Z,c,Z⟩:=a;cases c
  | side xs=>let⟨Z,c,Z⟩:=a;cases c
  | hold n=>rwa[uf (show Fm.again m x = .hold n from a) (λz=>nomatch z)]
  | ring w n=>rwa[uf (show Fm.again m x = .ring w n from a) (λz=>nomatch z)]
  | rise w v n=>rwa[uf (show Fm.again m x = .rise w v n from a) (λz=>nomatch z)]
def G1(N:Sn ls ps gs hs)(i:Sn ls qs gs' hs')(R:pB ps qs C g){E F:L0}(u:⇑E=⇑ps)(A:⇑F=⇑qs)(B:c9 ls ps E)(D:c9 ls qs F)(t:Int) :
  cJ ls qs gs' F t=cJ ls ps gs E t/\cP qs gs' t=cP ps gs t:=by
 have o:=XG N.s i.s R;have CE:=IF R u A B D;let⟨J,j,k,l⟩:=GO N i R _ _ R.top t;unfold cJ cP;rw[j,k];clear j k;generalize ls.map (·.2)=h
 induction J generalizing h with
 | nil=>rwa[rfl,rfl]
 | cons z r c=>
  have b:=l z vq;have c:=c λy I=>l y (vp _ I)
  let⟨G,H⟩:=R.lt _ _ b;have d:ps[z.1.1]?⊂ps[z.1.1]:=vz G;have e:qs[z.1.2]?⊂qs[z.1.2]:=vz H;let⟨a,Z⟩:=R.f _ _ _ _ b d e;have s:fQ ls qs gs' F h (z.1.2,z.2)=fQ ls ps gs E h (z.1.1,z.2):=by
   unfold fQ;dsimp only;rw[o _ _ b,CE _ _ b,d,e];split
   .rfl
   .generalize ps[z.1.1]=p at a;generalize qs[z.1.2]=q at a;let⟨x,p⟩:=p;let⟨y,q⟩:=q;dsimp only at a|-;cases p with
    | row xs=>let⟨f,rfl,Z⟩:=a;rfl
    | side xs=>let⟨f,rfl,Z⟩:=a;rfl
    | again m x=>let⟨y,rfl,Z⟩:=a;rfl
    | hold n=>have:q = .hold n:=a;subst this;rfl
    | ring x n=>have:q = .ring x n:=a;subst this;rfl
    | rise x v n=>have:q = .rise x v n:=a;subst this;rfl
  have w:cO qs (z.1.2,z.2)=cO ps (z.1.1,z.2):=by
   unfold cO;dsimp only;rw[d,e];generalize ps[z.1.1]=p at a;generalize qs[z.1.2]=q at a;let⟨x,p⟩:=p;let⟨y,q⟩:=q;dsimp only at a|-;cases p with
   | row xs=>let⟨f,rfl,Z⟩:=a;rfl
   | side xs=>let⟨f,rfl,Z⟩:=a;rfl
   | again m x=>let⟨y,rfl,Z⟩:=a;rfl
   | hold n=>have:q = .hold n:=a;subst this;rfl
   | ring x n=>have:q = .ring x n:=a;subst this;rfl
   | rise x v n=>have:q = .rise x v n:=a;subst this;rfl
  rw[v9,v9,v7,v7,flatMap_cons,flatMap_cons,s,w];rwa[(c _).1,by rw[(c h).2]]
end
end Rm
namespace L2
open PySem PySem.Spec PyProof.Rows
def Dh{K:cp}{n i j k l:Nat}(hi:i<n)(C:j<n)(D:k<n)(E:l<n):gN n (m6 K 4 (dN (cn i) (dN (cn j) (dN (cn k) (dN (cn l) m5))))):=λx G H Q q=>by
 let⟨a,B,d,f,g,v,r,h,z,w,o,c,b,p,A,y,s,t,q⟩:=q;erw[a,B,d,f,g,v,r,h,z,w,o,c,b,p,A,y,s,t,λm u F e=>?_,q];rw[List.getElem?_set_ne ⋯,List.getElem?_set_ne ⋯,List.getElem?_set_ne ⋯,List.getElem?_set_ne ⋯];rwa[e]
section
variable{X:Cx}{tg:Expr}
def pM(K:cp)(tl:TE):TI:=λσ H R=>tl σ H λx H1=>∃a,x = .ref a/\((∃xs,bV K H1 a xs)/\R (nJ K a) H1\/(∃xs,cw K H1 a xs)/\R (nK K a) H1)
def CO{K:cp}{b:TE}{c:St}{H:Hp}{R:It->Hp->Prop}(h:b c H λx H1=>∃a,x = .ref a/\((∃xs,bV K H1 a xs)/\R (nJ K a) H1\/(∃xs,cw K H1 a xs)/\R (nK K a) H1)):pM K b c H R:=h
def LX(n:PE X l tl):PI X tg l (pM X.K tl):=by
 intro g s y H R I h;erw[cC (n g s y H _ I h) λv c z_=>?_];obtain⟨x,k,d,m,t⟩:=z_
 obtain⟨a,e,⟨⟨w,j⟩,q⟩ | ⟨⟨w,j⟩,q⟩⟩:=t
 .subst e;cases m;let⟨f,u,p,r⟩:=d.list j;erw[wpAny_pyIter_list p.isList ?_];erw[c⁻¹,[c⁻¹],_,_,k,rfl,d.kept (t':=c.toks) λb o e=>vJ _ e,Xl a _,#[_,Heap.get?_push_size _ rfl,rfl,rfl],λb i=>?_,q];have e:b=c⁻¹:=by simpa using i
  subst e;rwa[d.fY (vb _) (d.cv.fresh (vb _))]
 .subst e;cases m;let⟨f,u,p,r⟩:=d.tuple j;erw[wpAny_pyIter_tuple (show c.heap.IsTuple a f.toArray from p) ?_];erw[c⁻¹,[c⁻¹],_,_,k,rfl,d.kept (t':=c.toks) λb o e=>vJ _ e,WX a _,#[_,Heap.get?_push_size _ rfl,rfl,rfl],λb i=>?_,q];have e:b=c⁻¹:=by simpa using i
  subst e;rwa[d.fY (vb _) (d.cv.fresh (vb _))]
end
open PySem PySem.Spec PySem.W PyProof.Rows
noncomputable abbrev KO:=Option Int
noncomputable def oT:KO->Value->Bool
 | some k,v=>Value.isInt k v
 | none,.none=>true
 | none,_=>false
def qk:∀{k:KO} {v:Value},oT k v=true->(∃i t,k⊂i/\v=Value.int i t)\/(k=none/\v=Value.none)
 | some i,v,h=>by
  let⟨t,e⟩:=Value.isInt_shape (k:=i) (v:=v) h;rwa[.inl #[i,t,rfl,e]]
 | none,v,h=>by
  cases v<;>first | exact .inr #[rfl,rfl] | cases h
noncomputable def Og:KO->Int
 | some k=>hashInt k
 | none=>4238894112
def Ge{P:Program}{w:World}{A:Around}{E:Nz}{s:Shared}{Q:Int->Shared->Prop}(h:Q 4238894112 {s with toks:=s.toks+1}):wpAny (model P w) A (pyHash .none) Q E s:=by
 have T:s.TypeIs .none "NoneType":=rfl;have a:[Value.none].any Value.onHeap=false:=rfl;unfold pyHash;erw[uh ?_];rw[cRoomFor,vc (by rw[a];rwa[vF])];erw[ug ?_];erw[uh (wpAny_specialOf T F.slot_NoneType_hash.lookup ?_)];show wpAny _ _ (if(some (Value.builtin "NoneType.__hash__")==some Value.none)=true then _ else _) Q E s;rw[vc (by rw[beq_builtin_none];rwa[vF])];erw[uh (wpAny_specialOf T F.slot_NoneType_hash.lookup ?_)];erw[uh (wpAny_callSpecialIfBoundUnlessNone?_slot T F.slot_NoneType_hash (wpAny_call_entry F.slot_NoneType_hash T F.entry_NoneType_hash ?_ (F.args_NoneType_hash_1 _)))];show wpAny _ _ (retInt 4238894112) _ _ s;erw[wpAny_ret_mkInt ?_];show wpAny _ _ (if(decide (-(2:Int)^63<=4238894112)&&decide ((4238894112:Int)<2^63))=true then _ else _) Q E _;rw[vd nofun];rwa[ug h]
noncomputable def gg(P:Program)(w:World):KeyKind P w KO where
 is:=oT
 hash:=Og
 inj:=λv a b ha hb=>by
  rcases qk ha with⟨i,t,rfl,rfl⟩ | ⟨rfl,rfl⟩
  .rcases qk hb with⟨j,u,rfl,e⟩ | ⟨rfl,e⟩
   .injection e with e1 _;rw[e1]
   .exact nomatch e
  .rcases qk hb with⟨j,u,rfl,e⟩ | ⟨rfl,e⟩
   .exact nomatch e
   .rfl
 byValue:=λk v h=>by
  rcases qk h with⟨i,t,rfl,rfl⟩ | ⟨rfl,rfl⟩<;>rfl
 pyHash:=λhv h=>by
  rcases qk hv with⟨i,t,rfl,rfl⟩ | ⟨rfl,rfl⟩
  .exact wpAny_pyHash_int h
  .exact Ge h
 eqBool:=λhu hv h=>by
  rcases qk hu with⟨i,t,rfl,rfl⟩ | ⟨rfl,rfl⟩
  .rcases qk hv with⟨j,u,rfl,rfl⟩ | ⟨rfl,rfl⟩
   .refine wpAny_eqBool_int ?_;rw[show(i==j)=decide ((some i:KO)⊂j) by
     lia]
    rwa[h]
   .rw[vH (λz=>nomatch z)]at h;rwa[SeqAt.EqAt.int_none i t _ _ _ _ h]
  .rcases qk hv with⟨j,u,rfl,rfl⟩ | ⟨rfl,rfl⟩
   .rw[vH (λz=>nomatch z)]at h;rwa[SeqAt.EqAt.none_int j u _ _ _ _ h]
   .rw[vG rfl]at h;rwa[SeqAt.EqAt.same _ _ _ _ _ h]
 «strs»:=λk x t v h=>by
  rcases qk h with⟨i,u,rfl,e⟩ | ⟨rfl,e⟩<;>rwa[nomatch e]
noncomputable def kO:KO->V
 | some i=>.int i
 | none=>.cV
def M0{k:KO}{u:Value}(r:RelV (kO k) u):oT k u=true:=by
 cases k with
 | some i=>let⟨t,rfl⟩:=(show∃t,u=Value.int i t from r);simp[oT,Value.isInt]
 | none=>cases(show u=Value.none from r);rfl
theorem Ci{P:Program}{w:World}:∀{ks:List KO} {us:L9},Vals (ks.map kO) us->ItemsAre (gg P w) ks us
 | [],_,r=>by rw[map_nil]at r;cases r;rwa[.nil]
 | k::ks,_,r=>by
  rw[v9]at r;cases r with
  | cons h t=>rwa[.cons (M0 h) (Ci t)]
def KAt(H:Hp)(b:Addr)(ks:List KO):Prop:=H b⊂(.tup (ks.map kO))
def Bw{P:Program}{w:World}{H:Hp}{h:Heap}{b:Addr}{ks:List KO}(g:eX P w H h)(e:KAt H b ks):(tupleKind (gg P w)).is h ks b:=by
 let⟨q,a,r,o,c,d,n,f⟩:=(show cm P w H h b (.tup (ks.map kO))from g b _ e)
 rwa[o,a.toArray,n,c,d,f,#v[Ci r]]
noncomputable abbrev OE:=List KO×Addr×V
def ir(xs:List OE)(ys:List (List KO×Addr×Value)):Prop:=Paired (λ(p:OE) (q:List KO×Addr×Value)=>p.1=q.1/\p.2.1=q.2.1/\RelV p.2.2 q.2.2) xs ys
noncomputable def nI(P:Program)(w:World)(a:Addr)(xs:List OE):HO:=.ext λh=>⇑xs<=sizeLine/\(a==sysModules)=false/\∃ys:List (List KO×Addr×Value),
 ir xs ys/\(ys.map (·.1)).Nodup/\∃es ep,fu h a es ep/\es.toList=ys.map (entryOfKey (tupleKind (gg P w)))
noncomputable def lQ(xs:List OE)(k:List KO):Option OE:=xs.find? λp=>decide (p.1=k)
noncomputable def hU(xs:List OE)(k:List KO):V:=((lQ xs k).map (·.2.2)).getD .cV
noncomputable def iA(xs:List OE)(k:List KO)(b:Addr)(v:V):List OE:=if(lQ xs k).isSome then xs.map λp=>if p.1=k then(p.1,p.2.1,v)else p else xs++[(k,b,v)]
theorem ir.length:∀{xs:List OE} {ys:List (List KO×Addr×Value)},ir xs ys->⇑xs=⇑ys
 | _,_,.nil=>rfl
 | _,_,.cons _ t=>by rw[vQ,vQ,ir.length t]
theorem ir.all{F:List KO->Addr->Prop}:∀{xs:List OE} {ys:List (List KO×Addr×Value)},ir xs ys->(∀p∈xs,F p.1 p.2.1)->∀q∈ys,F q.1 q.2.1
 | _,_,.nil,_=>λq b=>nomatch b
 | _,_,.cons (a:=x) r t,h=>λq b=>by
  rcases mem_cons.mp b with rfl | b
  .have:=h _ vq;rw[r.1,r.2.1]at this;rwa[this]
  .exact ir.all t (λp c=>h p (vp _ c)) q b
theorem ir.sE{k:List KO}:∀{xs:List OE} {ys:List (List KO×Addr×Value)},ir xs ys->RelV (hU xs k) (((atKey ys k).map (·.2)).getD .none)/\(lQ xs k).isSome=(atKey ys k).isSome
 | _,_,.nil=>#[rfl,rfl]
 | _,_,.cons (a:=x) (b:=y) (l₂:=m) (l₁:=l) r t=>by
  let⟨d,f⟩:=ir.sE (k:=k) t;unfold hU lQ atKey at *;by_cases e:x.1=k
  .have c:y.1=k:=r.1▸e;rw[List.find?_cons,List.find?_cons,vG e,vG c];rwa[r.2.2,rfl]
  .have c:¬y.1=k:=r.1▸e;rw[List.find?_cons,List.find?_cons,vH e,vH c];rwa[d,f]
theorem ir.mapped{k:List KO}{v:V}{u:Value}(c:RelV v u):∀{xs:List OE} {ys:List (List KO×Addr×Value)},ir xs ys->ir (xs.map λp=>if p.1=k then(p.1,p.2.1,v)else p) (ys.map (putAt k u))
 | _,_,.nil=>.nil
 | _,_,.cons (a:=x) (b:=y) r t=>by
  erw[.cons ?_ (ir.mapped c t)];unfold putAt;dsimp only;by_cases e:x.1=k
  .rw[vd e,vd (r.1▸e)];rwa[r.1,r.2.1,c]
  .rw[vc e,vc (r.1▸e)];rwa[r]
theorem ir.snoc{k:List KO}{b:Addr}{v:V}{u:Value}(a:RelV v u):∀{xs:List OE} {ys:List (List KO×Addr×Value)},ir xs ys->ir (xs++[(k,b,v)]) (ys++[(k,b,u)])
 | _,_,.nil=>.cons #[rfl,rfl,a] .nil
 | _,_,.cons r t=>.cons r (ir.snoc a t)
def ir.put{k:List KO}{b:Addr}{v:V}{u:Value}{xs:List OE}{ys:List (List KO×Addr×Value)}(a:RelV v u)(p:ir xs ys):ir (iA xs k b v) (storedH ys k b u):=by
 unfold iA storedH;rw[(p.sE (k:=k)).2];split
 .exact p.mapped a
 .exact p.snoc a
def CL{k:List KO}{b:Addr}{v:V}{xs:List OE}:⇑(iA xs k b v)<=⇑xs+1:=by
 unfold iA;split
 .rw[vt];lia
 .rw[vn];rwa[vb _]
section
variable{P:Program}{w:World}{H:Hp}{h:Heap}{a:Addr}{xs:List OE}
def D3(z:⇑xs<=sizeLine)(c:(a==sysModules)=false){ys:List (List KO×Addr×Value)}(r:ir xs ys)(d:(ys.map (·.1)).Nodup){es:Array DictEntry}{ep:Nat}(b:fu h a es ep)(e:es.toList=ys.map (entryOfKey (tupleKind (gg P w)))):cm P w H h a (nI P w a xs):=by
 erw[#[z,c,ys,r,d,es,ep,b,e],let ⟨o,ho,_⟩:=b;#[o,ho],?_];rintro f g ⟨z,c,ys,r,d,es,ep,b,e⟩ k;rwa[z,c,ys,r,d,es,ep,b.at' k,e]
end
section
variable{X:Cx}
def sf(P:Program)(w:World):TE:=λq H Q=>∀p,H p=none->Q (.ref p) (upd H p (nI P w p []))
def HN{b:Pos}:PE X (.Dict [] [] b) (sf X.prog X.w):=λc s d H Q I h=>
 wpAny_Dict_empty #[.ref s⁻¹,_,I.laid (a:=s⁻¹) (o:=nI X.prog X.w s⁻¹ []) (t':=s.toks) (λj j q=>vJ _ q) (vb _)
  (D3 (va _) (beq_eq_false_iff_ne.mpr (Ne.symm (vE I.big))) .nil nodup_nil (es:=#[]) (ep:=0) #[_,Heap.get?_push_size _ rfl,#[rfl,rfl,rfl],rfl] rfl),rfl,h _ (I.cv.fresh (vb _))]
def hI(P:Program)(w:World)(H:Hp)(a:Addr)(xs:List OE):Prop:=H a⊂(nI P w a xs)/\∀p∈xs,KAt H p.2.1 p.1
def Bu{d:Ny}{v:St}{H:Hp}{s:Shared}{a:Addr}{xs:List OE}(I:Inv X d v H s)(e:hI X.prog X.w H a xs):⇑xs<=sizeLine/\(a==sysModules)=false/\∃ys,ir xs ys/\s.heap.DictOfH (tupleKind (gg X.prog X.w)) a ys:=by
 let⟨e,f⟩:=e;let⟨z,l,ys,g,n,i,h,⟨o,r,j,c⟩,m⟩:=(show cm X.prog X.w H s.heap a (nI X.prog X.w a xs)from I.cv a _ e).1;rwa[z,l,ys,g,o,i,h,r,j,c,m,λq u=>g.all (F:=λk b=>(tupleKind (gg X.prog X.w)).is s.heap k b) (λp t=>Bw I.cv (f p t)) q u,n]
def oA(P:Program)(w:World)(to ty:TE):TE:=λσ H Q=>to σ H λx H1=>∃a xs,x = .ref a/\hI P w H1 a xs/\ty σ H1 λy H2=>∃b k xs,y = .ref b/\hI P w H2 a xs/\KAt H2 b k/\Q (hU xs k) H2
def DF{o e:Expr}{t v:TE}{c f:Pos}(L:X.A.units+1<cLine)(K:PE X o t)(J:PE X e v)(m:M1 X o "get" c e f):PE X (.Call (.Attribute o "get" c) [e] [] f) (oA X.prog X.w t v):=by
 intro g s w H Q I h;erw[wpAny_Call_method m.base m.Ao m.line q7 PySem.F.slot_dict_get PySem.F.type_dict_get (cC (K g s w H _ I h) λu W z_=>?_)];obtain⟨x,z,p,T,a,Z,C,d,R⟩:=z_;subst C;obtain rfl:u=Value.ref a:=T;let⟨_,_,ys,_,r⟩:=Bu p d;erw[r.typeIs,λb q=>?_,?_]
 .cases q;let⟨O,_,_,E,F,_⟩:=r;rwa[O,E,F.2.1]
 rw[m.trees];erw[Calls.callWith_builtin rfl (Calls.evalArgs_plain (Calls.spliced_cons (cC (J g W w z _ p R) λM Y z_=>?_)))];let⟨y,A,j,U,b,k,l,D,B,N,S⟩:=z_;erw[Calls.spliced_nil ?_];subst D;cases(show M=Value.ref b from U);let⟨_,G,n,P,i⟩:=Bu j B;erw[call_meetsIn PySem.F.slot_dict_get i.typeIs PySem.F.entry_dict_get (PySem.F.args_dict_get_2 _ _) (meetsH_dict_get (tupleKind (gg X.prog X.w)) a b G) #[tupleKind_room_in1 L,k,n,Bw j.cv N,i,#[hU l k,A,j.tok _,?_,S]]];rwa[(P.sE (k:=k)).1]
def HP{P:Program}{w:World}(f:X.prog=P)(g:X.w=w){o e:Expr}{c d:TE}{a b:Pos}(j:X.A.units+1<cLine)(i:PE X o c)(h:PE X e d)(m:M1 X o "get" a e b):PE X (.Call (.Attribute o "get" a) [e] [] b) (oA P w c d):=by
 subst f g;rwa[DF j i h m]
def DK{P:Program}{w:World}{d e:TE}{c:St}{H:Hp}{Q:VK}(h:d c H λx H1=>∃a xs,x = .ref a/\hI P w H1 a xs/\e c H1 λy H2=>∃b k xs,y = .ref b/\hI P w H2 a xs/\KAt H2 b k/\Q (hU xs k) H2):oA P w d e c H Q:=h
def MM(y:X.A.units+1<cLine):rJ X (λo i v H Q=>∃a b k xs,o = .ref a/\i = .ref b/\hI X.prog X.w H a xs/\KAt H b k/\⇑xs<sizeLine/\Q (upd H a (nI X.prog X.w a (iA xs k b v)))):=by
 intro g s M H o i v ov L u Q I D C E h;let⟨a,b,k,xs,rfl,rfl,d,B,l,q⟩:=h;cases D;cases C;let⟨z,w,F,j,m⟩:=Bu I d;have A:⇑F<=sizeLine:=by rw[<-⇑j];rwa[z]
 erw[wpAny_setItem_heap (hsz:=A) (tupleKind_room_in1 y) (Bw I.cv B) m λK c x=>#[_,?_,q]]
 let⟨f,J,G,e,n,p,r,Z,t⟩:=c;have:=CL (xs:=xs) (k:=k) (b:=b) (v:=v);rwa[YG I (by rw[d.1];rwa[True.intro]) x #[f,e] (D3 ⋯ w (j.put E) t #[f,e,n,p] r)]
mutual
theorem DV.mW{H:Hp}{d:Addr}{o:HO}(n:(∀ys,H d≠some (.lst ys))/\∀ys,H d≠some (.tup ys)):∀{v:V} {D:PyData},DV H v D->DV (upd H d o) v D
 | _,_,.cV=>.cV
 | _,_,.bl b=>.bl b
 | _,_,.int i=>.int i
 | _,_,.str x=>.str x
 | _,_,.lst e r=>.lst ((jh (λz=>n.1 _ (z▸e))).trans e) (hJ.mW n r)
 | _,_,.tup e r=>.tup ((jh (λz=>n.2 _ (z▸e))).trans e) (hJ.mW n r)
theorem hJ.mW{H:Hp}{d:Addr}{o:HO}(n:(∀ys,H d≠some (.lst ys))/\∀ys,H d≠some (.tup ys)):∀{vs:N2} {ds:List PyData},hJ H vs ds->hJ (upd H d o) vs ds
 | _,_,.nil=>.nil
 | _,_,.cons a r=>.cons (DV.mW n a) (hJ.mW n r)
end
def Cb{xs:List OE}{k a:List KO}{b:Addr}{v:V}:hU (iA xs k b v) a=if a=k then v else hU xs a:=by
 unfold iA;by_cases z:(lQ xs k).isSome=true
 .rw[vd z];unfold hU lQ at *;have e:∀l:List OE,((l.map λp=>if p.1=k then(p.1,p.2.1,v)else p).find? λp=>decide (p.1=a))=(l.find? λp=>decide (p.1=a)).map λp=>if p.1=k then(p.1,p.2.1,v)else p:=λl=>by
   induction l with
   | nil=>rfl
   | cons x r ih=>
    have d:(if x.1=k then(x.1,x.2.1,v)else x).1=x.1:=by split<;>rfl
    rw[v9,List.find?_cons,List.find?_cons,d,ih];by_cases c:x.1=a
    .rw[vG c];rfl
    .rw[vH c]
  rw[e,Option.map_map];by_cases c:a=k
  .subst c;rw[vd rfl];cases f:xs.find? λp=>decide (p.1=a)with
   | none=>rw[f]at z;cases z
   | some p=>
    have this:=List.find?_some f;have this:=of_decide_eq_true this;show(if p.1=a then(p.1,p.2.1,v)else p).2.2=v;rw[vd this]
  .rw[vc c];cases f:xs.find? λp=>decide (p.1=a)with
   | none=>rfl
   | some p=>
    have this:=List.find?_some f;have this:=of_decide_eq_true this;show(if p.1=k then(p.1,p.2.1,v)else p).2.2=p.2.2;rw[vc (λz=>c (this.symm.trans z))]
 .rw[vc z];have g:lQ xs k=none:=by simp_all
  unfold hU lQ at *;rw[List.find?_append];by_cases c:a=k
  .subst c;rw[g,vd rfl,Option.none_or,List.find?_cons,vG rfl];rfl
  .rw[vc c,List.find?_cons,vH (λz=>c z.symm),List.find?_nil,Option.or_none]
def HX{H H':Hp}{xs:List OE}{k:List KO}{b:Addr}{v:V}(h:∀p∈xs,KAt H p.2.1 p.1)(d:KAt H b k)(t:∀c ys,H c⊂.tup ys->H' c⊂.tup ys):∀p∈iA xs k b v,KAt H' p.2.1 p.1:=λp a=>by
 unfold iA at a;split at a
 .let⟨q,e,rfl⟩:=vK.mp a;have:=t _ _ (h q e);split<;>rwa[this]
 .rcases vh.mp a with z | z
  .exact t _ _ (h p z)
  .rw[vo.mp z];rwa[t _ _ d]
end
end L2
namespace Rm
open PySem PySem.Spec PyProof.Rows L2
theorem Bg:∀{l:Np} {k v a:Int},(l.map (·.1)).Pairwise (· < ·)->(k,v)∈l->(k,a)∈l->v=a
 | [],_,_,_,_,m,_=>nomatch m
 | q::r,k,v,a,p,m,m'=>by
  rw[v9,vV]at p;rcases mem_cons.mp m with e | n<;>rcases mem_cons.mp m' with e' | n'
  .rw[<-e]at e';cases e';rfl
  .rw[<-e]at p;rwa[uf (p.1 _ (vK.mpr #[_,n',rfl])) (Int.lt_irrefl _)]
  .rw[<-e']at p;rwa[uf (p.1 _ (vK.mpr #[_,n,rfl])) (Int.lt_irrefl _)]
  .exact Bg p.2 n n'
def Gk(r:∀j∈is,((E.getD j []).map (·.1)).Pairwise (· < ·))(a:cF E is k v)(b:cF E is k v'):v=v':=by
 let⟨t,j,n,e,g,q⟩:=a;let⟨o,s,i,l,d,h⟩:=b;rw[e]at l;have m:=r j (by rw[e];simp);rcases List.append_eq_append_iff.mp l with⟨f,p,c⟩ | ⟨f,p,c⟩
 .cases f with
  | nil=>
   rw[nil_append]at c;injection c with e3 e4;subst e3;rwa[Bg m g d]
  | cons x f=>
   rw[cons_append]at c;injection c with e3 e4;rwa[uf d (q s (by rw[e4];simp) v')]
 .cases f with
  | nil=>
   rw[nil_append]at c;injection c with e3 e4;subst e3;rwa[Bg m g d]
  | cons x f=>
   rw[cons_append]at c;injection c with e3 e4;rwa[uf g (h j (by rw[e4];simp) v)]
section
variable{L:L8}{fs:List Fn}{M:L1}{gs:L5}{names:L8}{E:L0}
open Classical in
theorem EN.ex(D:dO L fs M gs)(o:L.Nodup):∀n,n<=⇑fs->∃E:L0,⇑E=n/\EN L fs n E
 | 0,_=>#[[],rfl,λi f h=>uf h (Nat.not_lt_zero _)]
 | n+1,hn=>by
  let⟨E,O,e⟩:=EN.ex D o n ⋯;obtain⟨f,K⟩:∃f,fs[n]?⊂f:=#[_,vz ⋯]
  let⟨l,_,_⟩:=D.f n f K;have B:=l.js.2;have Q:∀k v,(cF E f.js k v\/∃x m,f = .rise x v m/\k=(cu L x:Nat))->0<=k/\k<⇑L:=by
   rintro k v (h | ⟨x,m,rfl,rfl⟩)
   .let⟨j,d,q,F⟩:=wN.mp #[v,h];rwa[D.Ai j (by have:=B j d;lia) k (e.tS D o ⋯ (B j d) (k,q) F)]
   .let⟨⟨i,s⟩,_⟩:=l;rw[jV o s];have:=(vx.mp s).1;lia
  have Z:∀k v q,(cF E f.js k v\/∃x m,f = .rise x v m/\k=(cu L x:Nat))->(cF E f.js k q\/∃x m,f = .rise x q m/\k=(cu L x:Nat))->v=q:=by
   rintro k v q (h | ⟨x,m,R,rfl⟩) (A | ⟨x',m',C,A⟩)
   .refine Gk (λj d=>?_) h A;obtain⟨g,p⟩:∃g,fs[j]?⊂g:=#[_,vz (by have:=B j d;lia)]
    rwa[(e j g (B j d) p).1]
   .rw[C]at h;let⟨l,j,u,z,_⟩:=h;simp[Fn.js]at z
   .rw[R]at A;let⟨l,j,u,z,_⟩:=A;simp[Fn.js]at z
   lia
  generalize U:(λk v=>(cF E f.js k v\/∃x m,f = .rise x v m/\k=(cu L x:Nat)))=P;have w:∀k v,(cF E f.js k v\/∃x m,f = .rise x v m/\k=(cu L x:Nat))↔P k v:=λk v=>by rw[<-U]
  generalize N:((List.range ⇑L).filterMap λi:Nat=>if h:∃v,P (i:Int) v then some ((i:Int),Classical.choose h)else none)=r;have X:∀k v,(k,v)∈r↔P k v:=λk v=>by
   rw[<-N,mem_filterMap];constructor
   .rintro⟨i,s,z⟩;split at z
    case isTrue h=>
     have z:=vL z;injection z with z1 z2;rw[<-z1,<-z2];rwa[Classical.choose_spec h]
    case isFalse h=>cases z
   .intro h;let⟨b0,b1⟩:=Q k v ((w k v).mpr h);erw[k.toNat,v4.mpr ⋯,?_];have S:((k.toNat:Nat):Int)=k:=⋯
    rw[S,dif_pos #[v,h]];have c:=Classical.choose_spec (#[v,h]:∃v,P k v);rw[Z k _ v ((w k _).mpr c) ((w k v).mpr h)]
  have Y:(r.map (·.1)).Pairwise (· < ·):=by
   rw[<-N,pairwise_map,List.pairwise_filterMap];erw[List.pairwise_lt_range.imp λ{a b} W x G y H=>?_]
   split at G
   case isFalse=>cases G
   split at H
   case isFalse=>cases H
   rw[<-vL G,<-vL H];show(a:Int)<(b:Int);lia
  have t:∀i,i<n->(E++[r]).getD i []=E.getD i []:=λi s=>by rw[vy,vy,vB ⋯]
  have I:(E++[r]).getD n []=r:=by rw[vy,vC ⋯,O,ur];rfl
  erw[E++[r],by rw[vn,O];rfl,λi g s p=>?_];have T:=(D.f i g p).1.js.2;have ex:∀j∈g.js,(E++[r]).getD j []=E.getD j []:=λj d=>t j (by have:=T j d;lia)
  have J:∀k v,(cF E g.js k v\/∃x m,g = .rise x v m/\k=(cu L x:Nat))↔(cF (E++[r]) g.js k v\/∃x m,g = .rise x v m/\k=(cu L x:Nat)):=λk v=>
   or_congr_left #[Z3 λj d=>(ex j d).symm,Z3 ex]
  rcases Nat.lt_or_ge i n with c | c
  .rw[t i c];let⟨a,b⟩:=e i g c p;rwa[a,λk v=>(b k v).trans (J k v)]
  .have:i=n:=⋯
   subst this;rw[K]at p;cases p;rw[I];rwa[Y,λk v=>(X k v).trans ((w k v).symm.trans (J k v))]
end
def Df{ls:L4}{fs:List Fn}{M:L1}{gs:L5}{names:L8}(D:dO (bQ ls) fs M gs)(r:⇑fs<=⇑names)(A:names.Nodup)(g:(bQ ls).Nodup):∃E:L0,⇑E=⇑(bS names fs)/\c9 ls (bS names fs) E:=by
 let⟨E,z,e⟩:=EN.ex D g ⇑fs (vb _);erw[E,by rw[j3];rwa[z],λi p x s t=>?_];let⟨f,d,rfl⟩:=qX s;have o:=(vx.mp d).1;have u:=(D.f i f d).1.js.2;have n:E.getD i []=x:=by rw[vy,t];rfl
 let⟨a,b⟩:=e i f o d;rw[n]at a b;erw[a,λk v=>(b k v).trans ?_];unfold g8;rw[zm r A λj q=>by have:=u j q;lia];erw[or_congr Iff.rfl #[?_,?_]]
 .rintro⟨x,m,rfl,c⟩;rwa[x,m,rfl,c]
 .rintro⟨x,m,h,c⟩;cases f with
  | rise y w l=>
   cases h;rwa[_,_,rfl,c]
  | _=>nomatch h
def Mm{ls:L4}{ps:N1}{gs:L5}{t:Int}(B:sM ls ps):∀x∈cP ps gs t,Ws.fR x=true:=λx b=>by
 unfold cP at b;let⟨y,q,a⟩:=mem_flatMap.mp b;unfold cO at a;cases e:ps[y.1]? with
 | none=>rw[e]at a;nomatch a
 | some p=>
  rw[e]at a;have w:=(B.pn p (vm e)).2;let⟨c,f⟩:=p;cases f with
  | ring z n=>
   dsimp only at a;split at a
   .rw[vo.mp a];rwa[w.1]
   .nomatch a
  | _=>nomatch a
end Rm
namespace L2
open PySem PySem.Spec PySem.W PyProof.Rows
section
variable{X:Cx}
def Wd:c8 X (.type "dict") (λxs H Q=>∃(p:Addr) (kvs:List (Key×V)),xs=[.ref p]/\(H p⊂.dK kvs\/∃o,H p⊂(.gM o (.dK kvs)))/\∀d,H d=none->Q (.ref d) (upd H d (.dK kvs))):=by
 intro f s w H xs t Q I r h;let⟨p,kvs,rfl,j,q⟩:=h;let⟨u,rfl,m⟩:=vals1 r;cases m;let⟨z,k,v,g,i⟩:=tG I.cv j;erw[kt_call_dict (knd:=cb X.prog X.w) k i (by rw[<-⇑g];rwa[z]) λn a l=>?_]
 have c:(s⁻¹==sysModules)=false:=by
  rw[beq_eq_false_iff_ne];rwa[vO I.big]
 erw[.ref s⁻¹,upd H s⁻¹ (.dK kvs),I.laid (t':=s.toks) (λb o e=>(l.2 b (vE (vI e))).trans (vJ _ e)) (vb _) (KM z c g a),rfl,q _ (I.cv.fresh (vb _))]
end
end L2
namespace Rm
open PySem PySem.Spec PyProof.Rows L2
def oJ(S:L5)(h h':L5):Prop:=⇑h=⇑h'/\∀i:Nat,(i:Int)∈S->h[i]?=h'[i]?
def hB(h:L5):Prop:=∀x∈h,0<=x/\x<=10^18
def hB.getD(b:hB h)(i:Nat):0<=h∘i/\h∘i<=10^18:=by
 rw[vy];cases e:h[i]? with
 | none=>rwa[vA _,nofun]
 | some x=>rwa[b x (vm e)]
def hB.set(b:hB h)(a:0<=v/\v<=10^18):hB (h.set i v):=λx c=>by
 rcases List.mem_or_eq_of_mem_set c with z | z
 .exact b x z
 .rw[z];rwa[a]
theorem hB.cx:∀{es:Np} {h:L5},hB h->(∀q∈es,0<=q.2/\q.2<=10^18)->hB (cx es h)
 | [],_,b,_=>b
 | q::r,h,b,e=>by
  rw[Q2];rwa[hB.cx (b.set (e q vq)) λx a=>e x (vp _ a)]
section
variable{L:L8}{fs:List Fn}{M:L1}{gs:L5}{names:L8}{n:Nat}{E:L0}
def WN(D:dO L fs M gs)(h:L.Nodup)(g:fs[i]?⊂.rise y v m):((cu L y:Nat):Int)∈M.getD i []/\0<=v/\v<=10^18/\1<=m/\gs∘i=m:=by
 let⟨⟨⟨k,a⟩,b,c,d,q⟩,e,f⟩:=D.f i _ g;rwa[(e.2 _).mpr (.inr #[y,v,m,k,rfl,a,by rw[jV h a]]),b,c,d,f]
def EN.val(D:dO L fs M gs)(e:EN L fs n E)(s:n<=⇑fs):∀{i:Nat},i<n->∀q∈E.getD i [],0<=q.2/\q.2<=10^18:=by
 intro i
 induction i using Nat.strongRecOn with
 | ind i ih=>
  intro k q o;obtain⟨f,b⟩:∃f,fs[i]?⊂f:=#[_,vz ⋯]
  let⟨a,Z,Z⟩:=D.f i f b;rcases((e i f k b).2 q.1 q.2).mp o with⟨p,j,c,g,h,_⟩ | ⟨x,m,d,r⟩
  .have l:j∈f.js:=by rw[g];simp
   have:=a.js.2 j l;rwa[ih j this ⋯ _ h]
  .subst d;rwa[a.2.1,a.2.2.1]
def AE:⇑(iU L fs gs E h x)=⇑h:=by
 unfold iU;split
 .exact qL _ _
 .split
  .exact length_set ..
  .rfl
def LJ(D:dO L fs M gs)(a:L.Nodup)(e:EN L fs n E)(b:n<=⇑fs){h:L5}{x:Nat×Int}(c:x.1<n){i:Nat}(hi:¬(i:Int)∈M.getD x.1 []):(iU L fs gs E h x)[i]?=h[i]?:=by
 unfold iU;split
 .exact zt (e.pos D a b c) λv d=>hi (e.tS D a b c _ d)
 .split
  .rename_i y v m hf;refine List.getElem?_set_ne λz=>hi ?_
   rw[<-z];rwa[(WN D a hf).1]
  .rfl
def LH(D:dO L fs M gs)(g:L.Nodup)(e:EN L fs n E)(l:n<=⇑fs)(d:x.1<n)(s:∀k∈M.getD x.1 [],k∈S)(a:oJ S h h'):oJ S (iU L fs gs E h x) (iU L fs gs E h' x):=by
 erw[by rw[AE,AE];rwa[a.1],λi p=>?_];have q:=a.1;unfold iU;split
 .by_cases c:i<⇑h
  case neg=>rw[vT (by rw[qL];lia),vT (by rw[qL];lia)]
  obtain⟨f,j⟩:∃f,fs[x.1]?⊂f:=#[_,vz ⋯]
  by_cases o:∃v,((i:Int),v)∈E.getD x.1 []
  .let⟨v,b⟩:=o;rw[yI (e x.1 f d j).1 (e.pos D g l d) b c,yI (e x.1 f d j).1 (e.pos D g l d) b ⋯]
  .rw[zt (e.pos D g l d) λv b=>o #[v,b],zt (e.pos D g l d) λv b=>o #[v,b]];rwa[a.2 i p]
 .split
  .rename_i y v m j;have r:=a.2 (cu L y) (s _ (WN D g j).1);rw[vy,vy,r];by_cases c:cu L y=i
   .subst c;rw[List.getElem?_set,List.getElem?_set,vd rfl,vd rfl,q]
   .rw[List.getElem?_set_ne c,List.getElem?_set_ne c];rwa[a.2 i p]
  .exact a.2 i p
def LI(D:dO L fs M gs)(g:L.Nodup)(e:EN L fs n E)(a:n<=⇑fs)(d:x.1<n)(k:0<=x.2)(b:hB h):hB (iU L fs gs E h x):=by
 unfold iU;split
 .exact b.cx (e.val D a d)
 .rename_i c;split
  .rename_i y v m hf;let⟨q,i,j,f,l⟩:=WN D g hf;rwa[b.set (Av (b.getD _) #[i,j] f k ⋯)]
  .exact b
def K2(D:dO L fs M gs)(e:⇑fs<=⇑names)(r:names.Nodup)(l:L.Nodup)(u:⇑L<=8)(g:⇑fs<=61):∀{j:Nat} {t:Int} {x:Nat×Int},j<⇑fs->x∈reach (bS names fs) gs j t->x.1<=j/\∀k∈M.getD x.1 [],k∈M.getD j []:=by
 have m:bQ (L.map λx=>(x,(0:Int)))=L:=by
  unfold bQ;rw[v6];rwa[map_id _]
 have W:dX (L.map λx=>(x,(0:Int))) (bS names fs):=dO.wf (by rw[m];rwa[D]) e r (by rw[m];rwa[l]) (by rw[vt];rwa[u]) g;intro j
 induction j using Nat.strongRecOn with
 | ind j ih=>
  intro t x w d;by_cases c:gs∘j<=t\/cH (bS names fs) gs j=[]
  .rw[Jb c]at d;rw[vo.mp d];rwa[vb _,λk h=>h]
  .rw[JE W c]at d;let⟨y,p,d⟩:=mem_flatMap.mp d;obtain⟨f,n⟩:∃f,fs[j]?⊂f:=#[_,vz ⋯]
   have v:=Qe W p;let⟨q,o,s⟩:=wO p;rw[zO D e r n]at o;have i:y.1∈f.js:=by rw[s];rwa[kP o]
   let⟨a,b⟩:=ih y.1 v ⋯ d;rwa[⋯,λk h=>((D.f j f n).2.1.2 k).mpr (.inl #[y.1,i,b k h])]
def mH(D:dO L fs M gs)(b:⇑fs<=⇑names)(i:names.Nodup)(c:L.Nodup)(h:⇑L<=8)(a:⇑fs<=61)(e:j<⇑fs)(k:0<=t)(g:x∈reach (bS names fs) gs j t):0<=x.2:=by
 have d:bQ (L.map λx=>(x,(0:Int)))=L:=by
  unfold bQ;rw[v6];rwa[map_id _]
 have N:Sn (L.map λx=>(x,(0:Int))) (bS names fs) gs M:=dO.sn (by rw[d];rwa[D]) b i (by rw[d];rwa[c]) (by rw[vt];rwa[h]) a ⋯ λq f=>by
  let⟨x,q,rfl⟩:=vK.mp f;rwa[(by show(0:Int)<=0;decide),(by show(0:Int)<=10^18;decide)]
 rwa[G9 N (by rw[j3];rwa[e]) k g]
def K0:⇑(dR L names fs gs E j t h)=⇑h:=by
 unfold dR;generalize reach (bS names fs) gs j t=xs
 induction xs generalizing h with
 | nil=>rfl
 | cons x r ih=>rw[v7,ih,AE]
theorem Cg(D:dO L fs M gs)(c:L.Nodup)(e:EN L fs n E)(d:n<=⇑fs){i:Nat}:∀{xs:L3} {h:L5},(∀x∈xs,x.1<n/\¬(i:Int)∈M.getD x.1 [])->(xs.foldl (iU L fs gs E) h)[i]?=h[i]?
 | [],_,_=>rfl
 | x::r,h,hx=>by
  rw[v7,Cg D c e d λy f=>hx y (vp _ f)];let⟨a,b⟩:=hx x vq;rwa[LJ D c e d a b]
theorem Cc(D:dO L fs M gs)(b:L.Nodup)(e:EN L fs n E)(c:n<=⇑fs):∀{xs:L3} {h h':L5},(∀x∈xs,x.1<n/\∀k∈M.getD x.1 [],k∈S)->oJ S h h'->oJ S (xs.foldl (iU L fs gs E) h) (xs.foldl (iU L fs gs E) h')
 | [],_,_,_,a=>a
 | x::r,h,h',hx,a=>by
  rw[v7,v7];let⟨p,q⟩:=hx x vq;rwa[Cc D b e c (λy d=>hx y (vp _ d)) (LH D b e c p q a)]
theorem Cd(D:dO L fs M gs)(a:L.Nodup)(e:EN L fs n E)(c:n<=⇑fs):∀{xs:L3} {h:L5},(∀x∈xs,x.1<n/\0<=x.2)->hB h->hB (xs.foldl (iU L fs gs E) h)
 | [],_,_,b=>b
 | x::r,h,hx,b=>by
  rw[v7];let⟨p,q⟩:=hx x vq;rwa[Cd D a e c (λy d=>hx y (vp _ d)) (LI D a e c p q b)]
def Bf(D:dO L fs M gs)(f:⇑fs<=⇑names)(m:names.Nodup)(c:L.Nodup)(l:⇑L<=8)(d:⇑fs<=61)(e:EN L fs n E)(g:n<=⇑fs){j:Nat}{t:Int}{h:L5}(o:j<n){i:Nat}(hi:¬(i:Int)∈M.getD j []):(dR L names fs gs E j t h)[i]?=h[i]?:=
 Cg D c e g λx k=>by
  let⟨a,b⟩:=K2 D f m c l d ⋯ k;rwa[⋯,λz=>hi (b _ z)]
def NM(D:dO L fs M gs)(f:⇑fs<=⇑names)(l:names.Nodup)(c:L.Nodup)(k:⇑L<=8)(d:⇑fs<=61)(e:EN L fs n E)(g:n<=⇑fs)(m:j<n)(a:oJ (M.getD j []) h h'):oJ (M.getD j []) (dR L names fs gs E j t h) (dR L names fs gs E j t h'):=
 Cc D c e g (λx i=>by
  let⟨a,b⟩:=K2 D f l c k d ⋯ i;rwa[⋯,b]) a
def NO(D:dO L fs M gs)(f:⇑fs<=⇑names)(k:names.Nodup)(c:L.Nodup)(i:⇑L<=8)(d:⇑fs<=61)(e:EN L fs n E)(l:n<=⇑fs)(o:j<n)(m:0<=t)(b:hB h):hB (dR L names fs gs E j t h):=
 Cd D c e l (λx g=>by
  let⟨a,q⟩:=K2 D f k c i d ⋯ g;rwa[⋯,mH D f k c i d ⋯ m g]) b
theorem CV(D:dO L fs M gs)(b:⇑fs<=⇑names)(l:names.Nodup)(c:L.Nodup)(j:⇑L<=8)(a:⇑fs<=61)(e:EN L fs n E)(f:n<=⇑fs){S:L5}:∀{xs:L3} {h:L5},(∀x∈xs,x.1<n/\∀k∈M.getD x.1 [],¬k∈S)->oJ S (xs.foldl (λh x=>dR L names fs gs E x.1 x.2 h) h) h
 | [],_,_=>#[rfl,λZ Z=>rfl]
 | x::r,h,hx=>by
  rw[v7];let⟨p,q⟩:=hx x vq;have g:=CV D b l c j a e f (S:=S) (xs:=r) (h:=dR L names fs gs E x.1 x.2 h) λy m=>hx y (vp _ m)
  erw[by rw[g.1,K0],λi d=>?_];rw[g.2 i d];rwa[Bf D b l c j a e f p λz=>q _ z d]
end
structure lV(L names:L8)(fs:List Fn)(M:L1)(gs:L5)(E:L0):Prop where
 D:dO L fs M gs
 md:⇑fs<=⇑names
 nd:names.Nodup
 i6:L.Nodup
 l8:⇑L<=8
 m3:⇑fs<=17
 sF:∀j,j<⇑fs->gs∘j<=90
 e:EN L fs ⇑fs E
 w:∀j t,j<⇑fs->0<=t->⇑(eD names fs gs j t)<=5000
section
variable{L:L8}{fs:List Fn}{M:L1}{gs:L5}{names:L8}{E:L0}
noncomputable def dV(L names:L8)(fs:List Fn)(gs:L5)(E:L0)(j:Nat)(h:L5):List (L5×L8):=(List.range (gs∘j).toNat).map λb:Nat=>(dR L names fs gs E j (b:Int) h,eD names fs gs j (b:Int))
def Jm:⇑(dV L names fs gs E j h)=(gs∘j).toNat:=by unfold dV;rw[vt,length_range]
def ZG{j b:Nat}{h:L5}(a:(b:Int)<gs∘j):(dV L names fs gs E j h)[b]?⊂(dR L names fs gs E j (b:Int) h,eD names fs gs j (b:Int)):=by
 unfold dV;rw[vv,List.getElem?_range ⋯];rfl
def XU(B:lV L names fs M gs E)(c:fs[j]?⊂f)(b:f.js=[])(d:∀is,f≠.row is/\f≠.side is)(t:Int)(h:L5):dR L names fs gs E j t h=iU L fs gs E h (j,t)/\eD names fs gs j t=cO (bS names fs) (j,t):=by
 have a:cH (bS names fs) gs j=[]:=by
  rw[zO B.D B.md B.nd c,b];cases f<;>rfl
 unfold dR eD;rw[Jb (.inr a)];rwa[rfl,by simp]
def Hi(B:lV L names fs M gs E)(a:fs[j]?⊂.hold n)(h:L5):dV L names fs gs E j h=List.replicate n.toNat (h,[])/\cx (E.getD j []) h=h:=by
 have f:=(vx.mp a).1;have g:gs∘j=n:=(B.D.f j _ a).2.2;have e:E.getD j []=[]:=by
  erw[List.eq_nil_iff_forall_not_mem.mpr λq k=>?_]
  rcases((B.e j _ f a).2 q.1 q.2).mp k with⟨p,i,d,z,_⟩ | ⟨x,m,z,_⟩
  .simp[Fn.js]at z
  .cases z
 erw[?_,by rw[e];rfl];erw[ext_getElem? λb=>?_]
 rcases Nat.lt_or_ge b n.toNat with c | c
 case inr=>rw[vT (by rw[Jm,g];rwa[c]),vT (by rw[length_replicate];rwa[c])]
 let⟨l,o⟩:=XU B a rfl (λr=>#[(λz=>nomatch z),(λz=>nomatch z)]) (b:Int) h;rw[ZG ⋯,l,o,List.getElem?_replicate,vd c];unfold iU cO;rw[vc (by show¬gs∘j<=(b:Int);lia),a,J1 a];rfl
def Hj(B:lV L names fs M gs E)(a:fs[j]?⊂.ring x n)(h:L5):dV L names fs gs E j h=(List.replicate n.toNat (h,[])).set 0 (h,[x])/\cx (E.getD j []) h=h:=by
 have f:=(vx.mp a).1;have g:gs∘j=n:=(B.D.f j _ a).2.2;have e:E.getD j []=[]:=by
  erw[List.eq_nil_iff_forall_not_mem.mpr λq k=>?_]
  rcases((B.e j _ f a).2 q.1 q.2).mp k with⟨p,i,d,z,_⟩ | ⟨x,m,z,_⟩
  .simp[Fn.js]at z
  .cases z
 erw[?_,by rw[e];rfl];erw[ext_getElem? λb=>?_]
 rcases Nat.lt_or_ge b n.toNat with c | c
 case inr=>rw[vT (by rw[Jm,g];rwa[c]),vT (by rw[length_set,length_replicate];rwa[c])]
 let⟨l,o⟩:=XU B a rfl (λr=>#[(λz=>nomatch z),(λz=>nomatch z)]) (b:Int) h;rw[ZG ⋯,l,o];unfold iU cO;rw[vc (by show¬gs∘j<=(b:Int);lia),a,J1 a];show some (h,if(b:Int)=0 then[x]else[])=_;by_cases z:b=0
 .subst z;rw[List.getElem?_set_self (by rw[length_replicate];rwa[c])];rfl
 .rw[List.getElem?_set_ne (λq=>z q.symm),List.getElem?_replicate,vd c,vc ⋯]
noncomputable def dI(L:L8)(x:Str)(v n:Int)(h:L5)(m:Nat):List (L5×L8):=(List.range m).map λb:Nat=>(h.set (cu L x) (Rp.ramp (h∘(cu L x)) v n (b:Int)),[])
def Hk(B:lV L names fs M gs E)(a:fs[j]?⊂.rise x v n)(h:L5):dV L names fs gs E j h=dI L x v n h n.toNat/\cx (E.getD j []) h=h.set (cu L x) v:=by
 have t:=(vx.mp a).1;have g:gs∘j=n:=(B.D.f j _ a).2.2;let⟨e,k⟩:=B.e j _ t a;have o:E.getD j []=[(((cu L x:Nat):Int),v)]:=by
  have f:(((cu L x:Nat):Int),v)∈E.getD j []:=(k _ _).mpr (.inr #[x,n,rfl,rfl]);have d:∀q∈E.getD j [],q=(((cu L x:Nat):Int),v):=λq u=>by
   rcases(k q.1 q.2).mp u with⟨A,i,l,z,_⟩ | ⟨F,m,z,C⟩
   .simp[Fn.js]at z
   .cases z;rwa[Prod.ext C rfl]
  generalize E.getD j []=es at f d e
  match es with
  | []=>cases f
  | [q]=>rw[d q vq]
  | q::q'::r=>
   have p:=d q vq;have s:=d q' (vp _ vq);subst p;subst s;rw[v9,vV]at e;rwa[uf (e.1 _ (by rw[v9];rwa[vq])) (Int.lt_irrefl _)]
 erw[?_,by rw[o];rfl];erw[ext_getElem? λb=>?_]
 rcases Nat.lt_or_ge b n.toNat with c | c
 case inr=>rw[vT (by rw[Jm,g];rwa[c]),vT (by unfold dI;rw[vt,length_range];rwa[c])]
 let⟨w,y⟩:=XU B a rfl (λD=>#[(λz=>nomatch z),(λz=>nomatch z)]) (b:Int) h;rw[ZG ⋯,w,y];unfold iU cO dI;rw[vc (by show¬gs∘j<=(b:Int);lia),a,J1 a,vv,List.getElem?_range c];rfl
noncomputable def gW(L names:L8)(fs:List Fn)(gs:L5)(E:L0):L6->L5->List (L5×L8)
 | [],_=>[]
 | j::r,h=>dV L names fs gs E j h++gW L names fs gs E r (cx (E.getD j []) h)
theorem WS:∀{is:L6} {h:L5},gW L names fs gs E (is++[j]) h=gW L names fs gs E is h++dV L names fs gs E j (is.foldl (λh j=>cx (E.getD j []) h) h)
 | [],h=>by
  show dV L names fs gs E j h++[]=[]++_;rw[append_nil,nil_append];rfl
 | i::r,h=>by
  show dV L names fs gs E i h++gW L names fs gs E (r++[j]) _=(dV L names fs gs E i h++gW L names fs gs E r _)++_;rw[WS,List.append_assoc];rfl
theorem Ax:∀{is:L6} {h:L5},(∀j∈is,0<=gs∘j)->(⇑(gW L names fs gs E is h):Int)=(is.map λj=>gs∘j).sum
 | [],h,_=>rfl
 | i::r,h,p=>by
  show(⇑(dV L names fs gs E i h++gW L names fs gs E r _):Int)=_;have:=p i vq;have b:=Ax (is:=r) (h:=cx (E.getD i []) h) λj a=>p j (vp _ a)
  rw[vn,Jm,v9,uz];lia
theorem Bo:∀{is:L6} {h:L5} {t:Nat},(∀j∈is,0<=gs∘j)->(t:Int)<(is.map λj=>gs∘j).sum->
  ∃(i j u:Nat),is[i]?⊂j/\((is.take i).map λj=>gs∘j).sum+u=t/\(u:Int)<gs∘j/\(gW L names fs gs E is h)[t]?⊂(dR L names fs gs E j u ((is.take i).foldl (λh j=>cx (E.getD j []) h) h),eD names fs gs j u)
 | [],h,t,_,z=>by
  have:(t:Int)<0:=z;lia
 | j::r,h,t,p,z=>by
  have g:=p j vq;rw[v9,uz]at z;show∃(i a u:Nat),_/\_/\_/\(dV L names fs gs E j h++gW L names fs gs E r _)[t]?=_;rcases Int.lt_or_le (t:Int) (gs∘j)with c | c
  .refine#[0,j,t,rfl,?_,c,?_]
   .rw[List.take_zero];show(0:Int)+t=t;lia
   .rw[vB (by rw[Jm];lia),ZG c];rfl
  .let⟨i,a,u,b,l,d,e⟩:=Bo (is:=r) (h:=cx (E.getD j []) h) (t:=t-(gs∘j).toNat) (λk f=>p k (vp _ f)) ⋯;refine#[i+1,a,u,b,?_,d,?_]
   .rw[List.take_succ_cons,v9,uz];lia
   .rw[vC (by rw[Jm];lia),Jm,e];rfl
def I9(B:lV L names fs M gs E)(e:fs[k]?⊂.row is)(h:L5):dV L names fs gs E k h=gW L names fs gs E is h/\cx (E.getD k []) h=is.foldl (λh j=>cx (E.getD j []) h) h:=by
 have f:=(vx.mp e).1;let⟨n,Z,g⟩:=B.D.f k _ e;have g:gs∘k=(is.map λj=>gs∘j).sum:=g;have A:∀j∈is,j<k:=n.js.2;have d:∀j∈is,1<=gs∘j/\gs∘j<=10^60:=λj a=>B.D.g j (by have:=A j a;lia)
 have l:⇑fs<=61:=by have:=B.m3;lia
 erw[?_,B.e.all B.D B.i6 (vb _) f e (λx v m z=>nomatch z) h];have F:=Ax (L:=L) (names:=names) (fs:=fs) (gs:=gs) (E:=E) (is:=is) (h:=h) λj a=>by have:=d j a;lia
 erw[ext_getElem? λb=>?_]
 rcases Nat.lt_or_ge b (gs∘k).toNat with c | c
 case inr=>rw[vT (by rw[Jm];rwa[c]),vT ⋯]
 let⟨i,j,u,p,C,D,y⟩:=Bo (L:=L) (names:=names) (fs:=fs) (gs:=gs) (E:=E) (is:=is) (h:=h) (t:=b) (λj a=>by have:=d j a;lia) ⋯;let⟨r,s⟩:=XF B.D B.md B.nd B.i6 B.l8 l B.e (vb _) f e trivial (t:=(b:Int)) ⋯ ⋯ h;have q:=(vx.mp p).1;have o:is.drop i=j::is.drop (i+1):=by
  rw[List.drop_eq_getElem_cons q];congr 1;rwa[vL ((vz q).symm.trans p)]
 have w:oI names fs gs k (b:Int)=((is.take i).map λj=>(j,gs∘j))++[(j,(u:Int))]:=by
  unfold oI;rw[zO B.D B.md B.nd e];show de gs _ (cK gs is 0)=_;rw[K4 (is:=is) (i:=i) d ⋯,o,Ke (λk f=>d k (by rw[<-o]at f;rwa[List.mem_of_mem_drop f])) ⋯,vc ⋯];congr 3;lia
 rw[ZG ⋯,y,r,s,w,foldl_append,flatMap_append,KR,wK λj a=>(d j (mem_of_mem_take a)).1];simp
theorem Wn(B:lV L names fs M gs E)(a:j<⇑fs)(h:L5):∀n:Nat,(List.replicate (n+1) j).foldl (λh j=>cx (E.getD j []) h) h=cx (E.getD j []) h
 | 0=>rfl
 | n+1=>by
  obtain⟨f,b⟩:∃f,fs[j]?⊂f:=#[_,vz a]
  rw[List.replicate_succ',foldl_append,Wn B a h n];rwa[WT (B.e j f a b).1 (B.e.pos B.D B.i6 (vb _) a) h]
theorem wX:∀n:Nat,((List.replicate n j).map λj=>gs∘j).sum=(n:Int)*gs∘j
 | 0=>by simp
 | n+1=>by
  rw[replicate_succ,v9,uz,wX n,Int.natCast_add,Int.add_mul];lia
def FV(B:lV L names fs M gs E)(d:fs[k]?⊂.again m j)(h:L5):dV L names fs gs E k h=gW L names fs gs E (List.replicate m.toNat j) h/\cx (E.getD k []) h=(List.replicate m.toNat j).foldl (λh j=>cx (E.getD j []) h) h:=by
 have p:=(vx.mp d).1;let⟨q,_,g⟩:=B.D.f k _ d;have g:gs∘k=m*gs∘j:=g;let⟨U,_,Z⟩:=q;have a:j<⇑fs:=⋯
 have D:=B.D.g j a;have e:⇑fs<=61:=by have:=B.m3;lia
 obtain⟨n,S⟩:∃n:Nat,m.toNat=n+1:=#[m.toNat-1,⋯]
 have J:m=((n+1:Nat):Int):=⋯
 rw[S];erw[?_,?_]
 rotate_left
 .rw[B.e.all B.D B.i6 (vb _) p d (λx v m z=>nomatch z) h,Wn B a];rfl
 have s:∀i∈List.replicate (n+1) j,0<=gs∘i:=λi R=>by rw[(List.mem_replicate.mp R).2];lia
 have W:=Ax (L:=L) (names:=names) (fs:=fs) (gs:=gs) (E:=E) (is:=List.replicate (n+1) j) (h:=h) s;rw[wX,<-J]at W;erw[ext_getElem? λb=>?_]
 rcases Nat.lt_or_ge b (gs∘k).toNat with c | c
 case inr=>rw[vT (by rw[Jm];rwa[c]),vT ⋯]
 have k0:=B.D.g k p;let⟨i,Y,u,Q,l,F,G⟩:=Bo (L:=L) (names:=names) (fs:=fs) (gs:=gs) (E:=E) (is:=List.replicate (n+1) j) (h:=h) (t:=b) s (by rw[wX,<-J];lia);let⟨T,A⟩:=vx.mp Q;rw[List.getElem_replicate]at A;subst A;rw[length_replicate]at T;rw[List.take_replicate,Nat.min_eq_left ⋯,wX]at l;rw[List.take_replicate,Nat.min_eq_left ⋯]at G;let⟨N,O⟩:=XF B.D B.md B.nd B.i6 B.l8 e B.e (vb _) p d trivial (t:=(b:Int)) ⋯ ⋯ h;have X:(b:Int)/gs∘j=i:=by
  rw[<-l,Int.add_comm,Int.add_mul_ediv_right _ _ ⋯,Int.ediv_eq_zero_of_lt ⋯ F,ux]
 have C:(b:Int)%gs∘j=u:=by
  rw[<-l,Int.add_comm,Int.add_mul_emod_self_right,Int.emod_eq_of_lt ⋯ F]
 have P:oI names fs gs k (b:Int)=de gs b ((j,1,0)::(if 1<m then[(j,m-1,gs∘j)]else[])):=by
  unfold oI;rw[zO B.D B.md B.nd d];rfl
 have K:eD names fs gs j (gs∘j)=[]:=yx D.1;obtain⟨f,o⟩:∃f,fs[j]?⊂f:=#[_,vz a]
 have r:=WT (B.e j f a o).1 (B.e.pos B.D B.i6 (vb _) a) h;rw[ZG ⋯,G,N,O,P];rcases Cs D.1 U (t:=(b:Int)) ⋯ ⋯with⟨z,w⟩ | ⟨z1,z2,y,H,w⟩ | ⟨z,y,H,w⟩
 .rw[w,C];have:i=0:=⋯
  subst this;simp
 .rw[w,C];obtain⟨I,rfl⟩:∃I,i=I+1:=#[i-1,⋯]
  rw[Wn B a];rcases H with rfl | rfl
  .show some (dR L names fs gs E j u (dR L names fs gs E j (gs∘j) h),eD names fs gs j (gs∘j)++(eD names fs gs j u++[]))=_;rw[K,QI,append_nil,nil_append]
  .show some (dR L names fs gs E j u (dR L names fs gs E j (gs∘j) (dR L names fs gs E j (gs∘j) h)),eD names fs gs j (gs∘j)++(eD names fs gs j (gs∘j)++(eD names fs gs j u++[])))=_;rw[K,QI,QI,r,append_nil,nil_append,nil_append]
 .lia
def Nh(B:lV L names fs M gs E){j:Nat}(f:j<⇑fs){t:Int}{h F:L5}(a:oJ (M.getD j []) F h)(e:⇑h=⇑L){i:Nat}(hi:i<⇑L) :
  (dR L names fs gs E j t F)[i]?⊂(if(dR L names fs gs E j t h).getD i 0≠h∘i then(dR L names fs gs E j t h).getD i 0 else F∘i):=by
 have b:⇑fs<=61:=by have:=B.m3;lia
 have g:=a.1;have d:∀{l:L5},⇑l=⇑L->l[i]?⊂(l∘i):=λ{l} e=>by rw[vy,vz ⋯];rfl
 by_cases c:(i:Int)∈M.getD j []
 .rw[(NM B.D B.md B.nd B.i6 B.l8 b B.e (vb _) f a).2 i c,d (by rw[K0,e])];split
  .rfl
  .rename_i z;have z:=Decidable.not_not.mp z;rw[z];have:=a.2 i c;rw[d ⋯,d e]at this;rwa[this.symm]
 .rw[Bf B.D B.md B.nd B.i6 B.l8 b B.e (vb _) f c,d ⋯];have:(dR L names fs gs E j t h)[i]?=h[i]?:=Bf B.D B.md B.nd B.i6 B.l8 b B.e (vb _) f c;rw[d (by rw[K0,e]),d e]at this;rw[vc (by rw[vL this];rwa[λz=>z rfl])]
theorem xM:∀{xs:L3} {h:L5},⇑(xs.foldl (λh x=>dR L names fs gs E x.1 x.2 h) h)=⇑h
 | [],_=>rfl
 | x::r,h=>by rw[v7,xM,K0]
noncomputable def dn(gs:L5)(t:Int)(j:Nat):Nat×Int:=if gs∘j<=t then(j,gs∘j)else(j,t)
def Hl(B:lV L names fs M gs E)(a:fs[k]?⊂.side is)(h:L5)(e:0<=t)(o:t<=gs∘k) :
  dR L names fs gs E k t h=(is.map (dn gs t)).foldl (λh x=>dR L names fs gs E x.1 x.2 h) h/\eD names fs gs k t=(is.map (dn gs t)).flatMap λx=>eD names fs gs x.1 x.2:=by
 have m:=(vx.mp a).1;let⟨d,q,g⟩:=B.D.f k _ a;have n:∀j∈is,j<k:=d.js.2;have i:∀j∈is,1<=gs∘j:=λj l=>(B.D.g j (by have:=n j l;lia)).1
 have b:⇑fs<=61:=by have:=B.m3;lia
 have c:=XF B.D B.md B.nd B.i6 B.l8 b B.e (vb _) m a trivial e o h;have f:oI names fs gs k t=is.map (dn gs t):=by
  unfold oI;rw[zO B.D B.md B.nd a];show de gs _ (is.map λj=>(j,1,0))=_;rw[Kh i e];rfl
 rw[f]at c;rwa[c]
def Hq(B:lV L names fs M gs E){k:Nat}{is:L6}(n:fs[k]?⊂.side is){h:L5}{t:Int}{i j:Nat}(s:is[i]?⊂j):oJ (M.getD j []) (((is.take i).map (dn gs t)).foldl (λh x=>dR L names fs gs E x.1 x.2 h) h) h:=by
 have z:=(vx.mp n).1;let⟨l,Z,g⟩:=B.D.f k _ n;let⟨Z,Z,y,Z,o⟩:=l;have d:⇑fs<=61:=by have:=B.m3;lia
 have e:∀b,(dn gs t b).1=b:=λb=>by unfold dn;split<;>rfl
 erw[CV B.D B.md B.nd B.i6 B.l8 d B.e (vb _) λx v=>?_]
 let⟨b,c,rfl⟩:=vK.mp v;rw[e b];erw[by have:=y b (mem_of_mem_take c);lia,λq u f=>?_];let⟨a,r,m⟩:=mem_iff_getElem.mp c;rw[vi]at r;rw[getElem_take]at m;let⟨w,p⟩:=vx.mp s;have:=pairwise_iff_getElem.mp o a i ⋯ w ⋯;rw[m,p]at this;rwa[this q u f]
end
def Ds(f:L.Nodup)(o:⇑L=⇑F)(d:L[i]?⊂x)(v:Int):putK (ff L F) (Sum.inr x) (.int v)=ff L (F.set i v):=by
 let⟨s,l⟩:=vx.mp d;have r:=Zc o;have g:((ff L F).any λkv=>decide (kv.1=(Sum.inr x:Key)))=true:=by
  rw[any_eq_true];have m:(Sum.inr x:Key)∈(ff L F).map (·.1):=by rw[r];rwa[vK.mpr #[x,vm d,rfl]]
  let⟨q,p,e⟩:=vK.mp m;rwa[q,p,vG e]
 unfold putK;rw[vd g];erw[ext_getElem? λk=>?_]
 unfold ff;rw[v6,vv,vv];by_cases b:k<⇑L
 case neg=>rw[vT (by rw[length_zip];lia),vT (by rw[length_zip,length_set];lia)];rfl
 have n:k<⇑F:=⋯
 have a:k<⇑(F.set i v):=by rw[length_set];lia
 have h:(L.zip F)[k]?⊂(L[k],F[k]):=List.getElem?_zip_eq_some.mpr #[vz b,vz n];have j:(L.zip (F.set i v))[k]?⊂(L[k],(F.set i v)[k]):=List.getElem?_zip_eq_some.mpr #[vz b,vz a];rw[h,j];show some (if(Sum.inr L[k]:Key)=Sum.inr x then((Sum.inr L[k]:Key),V.int v)else((Sum.inr L[k]:Key),V.int F[k]))⊂((Sum.inr L[k]:Key),V.int (F.set i v)[k]);rw[List.getElem_set];by_cases c:i=k
 .subst c;rw[vd (by rw[l]),vd rfl]
 .rw[vc,vc c];intro z;have z:L[k]=x:=Sum.inr.inj z;rwa[c ((jV f d).symm.trans (jV f (by rw[vz b,z])))]
theorem WA:∀{kvs acc:List (Key×V)},((acc++kvs).map (·.1)).Nodup->cG acc kvs=acc++kvs
 | [],acc,_=>(append_nil _).symm
 | q::r,acc,h=>by
  show cG (putK acc q.1 q.2) r=_;rw[Z8,WA]
  .rw[List.append_assoc];rfl
  .rw[List.append_assoc];rwa[h]
  .intro m;rw[vj,v9]at h;rwa[(nodup_append.mp h).2.2 _ m _ vq rfl]
def G2(a:(bQ ls).Nodup):cG [] ((ls.map λq=>(q.1,V.int q.2)).map se)=ff (bQ ls) (ls.map (·.2)):=by
 have e:(ls.map λq=>(q.1,V.int q.2)).map se=ff (bQ ls) (ls.map (·.2)):=by
  unfold ff bQ;rw[v6,List.zip_map',v6];rfl
 rw[e,WA,nil_append];rw[nil_append,Zc (by unfold bQ;rw[vt,vt])];rwa[pairwise_map.mpr (a.imp λh e=>h (Sum.inr.inj e))]
def Xx(h:1<=n)(e:⇑xs=n)(a:xs[n-1]?⊂v):eZ xs (-1)⊂v:=by
 have:xs=xs.take (n-1)++[v]:=by
  rw[<-take_snoc a,show n-1+1=⇑xs by lia,v5]
 rw[this];rwa[Cu _ _]
def Ga(x:V)(n:Nat):(List.replicate n [x]).flatten=List.replicate n x:=by
 induction n with
 | zero=>rfl
 | succ n ih=>rw[replicate_succ,flatten_cons,ih];rfl
def CB(h:⇑xs=n+1):gQ xs none (some (-1))=xs.take n:=by
 have e:HT.dD ⇑xs ⇑xs (some (-1))=n:=by
  show(if(-1:Int)<0 then((-1:Int)+(⇑xs:Int)).toNat else min (-1:Int).toNat ⇑xs)=n;rw[vd nofun];lia
 unfold gQ;rw[show HT.dD ⇑xs 0 none=0 from rfl,e,List.drop_zero,Nat.sub_zero]
def lZ(H:Hp)(L:L8)(a:Addr)(h:L5):Prop:=⇑h=⇑L/\hB h/\∃o,H a⊂(.gM o (.dK (ff L h)))
def gz(H:Hp)(L:L8)(a:Addr)(x:L5×L8):Prop:=∃d w,H a⊂(.tup [.ref d,.ref w])/\lZ H L d x.1/\H w⊂(.lst (x.2.map V.str))
def iS(H:Hp)(L:L8)(r:Addr)(rows:List (L5×L8))(h:L5):Prop:=∃rl hd ras,H r⊂(.tup [.ref rl,.ref hd])/\H rl⊂(.lst (ras.map V.ref))/\bX (gz H L) ras rows/\lZ H L hd h
section
variable{H H' H0:Hp}{L:L8}{a:Addr}{h:L5}{rl:Addr}{ds ras:L7}{rows:List (L5×L8)}
def lZ.same(s:bU H H')(x:lZ H L a h):lZ H' L a h:=#[x.1,x.2.1,x.2.2.imp λo e=>s _ _ e]
def gz.same(s:bU H H')(r:gz H L a x):gz H' L a x:=by
 let⟨d,w,b,c,e⟩:=r;rwa[d,w,s _ _ b,c.same s,s _ _ e]
def iS.same(s:bU H H')(r:iS H L a rows h):iS H' L a rows h:=by
 let⟨i,g,b,c,d,e,f⟩:=r;rwa[i,g,b,s _ _ c,s _ _ d,e.mono λa x=>gz.same s,f.same s]
def lZ.get(x:lZ H L a h)(d:L.Nodup)(b:L[i]?⊂y):cY H a (.str y) (some (.int (h∘i))):=by
 let⟨l,q,o,e⟩:=x;let⟨c,f⟩:=vx.mp b;have z:L.getD i ⟨#[]⟩=y:=by rw[vy,b];rfl
 have v:=kJ d l.symm c;rw[z]at v;rwa[.inl #[_,Sum.inr y,.inr #[o,e],rfl,v.symm]]
structure mU(H0:Hp)(L:L8)(rl:Addr)(H:Hp)(ds ras:L7)(rows:List (L5×L8)):Prop where
 s:bU H0 H
 nr:H0 rl=none
 e:H rl⊂(.lst (ras.map V.ref))
 l1:⇑ras=⇑rows
 l2:⇑ds=⇑rows
 a:∀(i:Nat) (d c:Addr) (x:L5×L8),ds[i]?⊂d->ras[i]?⊂c->rows[i]?⊂x->∃w,w≠rl/\H c⊂(.tup [.ref d,.ref w])/\H d⊂(.dK (ff L x.1))/\⇑x.1=⇑L/\hB x.1/\H w⊂(.lst (x.2.map V.str))
 nd:ds.Nodup
 nw:∀d∈ds,H0 d=none
def mU.nil(s:bU H0 H)(n:H0 rl=none)(e:H rl⊂(.lst [])):mU H0 L rl H [] [] []:=#[s,n,e,rfl,rfl,λi d c x h=>by simp at h,nodup_nil,λd h=>nomatch h]
def mU.ym(R:mU H0 L rl H ds ras rows)(a:d∈ds):∃kvs,H d⊂(.dK kvs):=by
 let⟨i,b,e⟩:=mem_iff_getElem.mp a;have c:=R.l1;have f:=R.l2;let⟨w,q,q,z,q⟩:=R.a i d _ _ (by rw[vz b,e]) (vz ⋯) (vz ⋯);rwa[_,z]
def mU.push(R:mU H0 L rl H ds ras rows)(s:bU H H')(l:H d=none)(I:H' d⊂(.dK (ff L h)))(M:⇑h=⇑L)(a:hB h)(hw:H w=none)(J:H' w⊂(.lst (W.map V.str)))(o:H' c⊂(.tup [.ref d,.ref w])) :
  mU H0 L rl (upd H' rl (.lst ((ras++[c]).map V.ref))) (ds++[d]) (ras++[c]) (rows++[(h,W)]):=by
 have K:=s _ _ R.e;have D:w≠rl:=λz=>by rw[z,R.e]at hw;cases hw
 have e:∀{b u},H' b⊂u->b≠rl->upd H' rl (.lst ((ras++[c]).map V.ref)) b⊂u:=λa n=>(jh n).trans a
 have G:d≠rl:=λz=>by rw[z,R.e]at l;cases l
 have F:c≠rl:=λz=>by rw[z,K]at o;cases o
 have A:=R.l1;have B:=R.l2;erw[λb u a=>e (s _ _ (R.s _ _ a)) (λz=>by rw[z,R.nr]at a;cases a),R.nr,jA,?_,?_,λi m E x g j f=>?_,?_,λm p=>?_]
 .rw[vn,vn,A];rfl
 .rw[vn,vn,B];rfl
 .rcases Nat.lt_or_ge i ⇑rows with k | k
  .rw[vB ⋯]at g j f;let⟨T,C,r,t,P,Q,S⟩:=R.a i m E x g j f;refine#[T,C,e (s _ _ r) λz=>?_,e (s _ _ t) λz=>?_,P,Q,e (s _ _ S) C]
   .rw[z,R.e]at r;cases r
   .rw[z,R.e]at t;cases t
  .have q:i=⇑rows:=by
    have:=(vx.mp f).1;rw[vn]at this;have:i<⇑rows+1:=this;lia
   rw[vC ⋯,q,B,ur]at g;rw[vC ⋯,q,A,ur]at j;rw[vC ⋯,q,ur]at f;cases g;cases j;cases f;rwa[w,D,e o F,e I G,M,a,e J D]
 .refine nodup_append.mpr #[R.nd,uo.mpr #[(λz=>nomatch z),nodup_nil],λx v y N z=>?_];rw[vo.mp N]at z;rw[z]at v;let⟨O,k⟩:=R.ym v;rw[l]at k;cases k
 .rcases vh.mp p with k | k
  .exact R.nw m k
  .rw[vo.mp k];rwa[none_of R.s l]
def mU.run(R:mU H0 L rl H ds ras rows)(s:bU H H'){f:Hp}{l p j:Addr}{n:Nat}{x:L5×L8}(A:H' l⊂(.lst ((ras.take n).map V.ref)))(B:H' p⊂(.tup [.ref l,.ref j]))(C:ds[n]?⊂j)(D:rows[n]?⊂x)(m:uR ds H' f):bU H0 f/\iS f L p (rows.take n) x.1:=by
 have G:=R.l1;have K:=R.l2;have a:∀{c u},H' c⊂u->(∀k,u≠.dK k)->f c⊂u:=λ{c u} e E=>(m.1 c λz=>by
  let⟨F,k⟩:=R.ym z;rw[s _ _ k]at e;cases e;rwa[E _ rfl]).trans e
 have o:∀(i:Nat) (d:Addr) (x:L5×L8),ds[i]?⊂d->rows[i]?⊂x->lZ f L d x.1:=λi d x b g=>by
  have q:=(vx.mp b).1;let⟨w,Z,Z,r,t,v,Z⟩:=R.a i d _ x b (vz ⋯) g;rwa[t,v,m.2 d (vm b) _ (s _ _ r)]
 erw[λc u e=>(m.1 c λz=>?_).trans (s _ _ (R.s _ _ e)),l,j,ras.take n,a B (λk z=>nomatch z),a A (λk z=>nomatch z),#[?_,λi c y b g=>?_],o n j x C D]
 .rw[R.nw c z]at e;cases e
 .rw[vi,vi,G]
 .have q:=(vx.mp b).1;rw[vi]at q;rw[List.getElem?_take_of_lt ⋯]at b g;obtain⟨d,h⟩:∃d,ds[i]?⊂d:=#[_,vz ⋯]
  let⟨w,Z,I,r,t,v,J⟩:=R.a i d c y h b g;rwa[d,w,a (s _ _ I) (λk z=>nomatch z),o i d y h g,a (s _ _ J) (λk z=>nomatch z)]
end
noncomputable def fg(L names:L8)(fs:List Fn)(gs:L5)(E:L0)(k:Nat)(h:L5)(m:Nat):List (L5×L8):=(List.range m).map λt:Nat=>(dR L names fs gs E k (t:Int) h,eD names fs gs k (t:Int))
def IJ(h:t<gs∘j):dn gs t j=(j,t):=by unfold dn;rw[vc ⋯]
def II(h:gs∘j<=t):dn gs t j=(j,gs∘j):=by unfold dn;rw[vd h]
def G4{a b:L5}{L:L8}(e:⇑a=⇑L)(f:⇑b=⇑L)(h:∀q,q<⇑L->a∘q=b∘q):a=b:=by
 erw[ext_getElem ⋯ λq c d=>?_]
 have:=h q ⋯;rw[vy,vy,vz c,vz d]at this;rwa[this]
inductive fJ(vs:N2)(H:Hp)(Q:VK)(xk:XK):Prop
 | mk (fa hd) (L:L8) (x v) (n:Int) (h:L5):vs=[.ref fa,.ref hd]->H fa⊂(.tup [.str "raise",.str x,.int v,.int n])->lZ H L hd h->L.Nodup->(∃i:Nat,L[i]?⊂x)->⇑L<=8->0<=v->v<=10^18->1<=n->n<=90->(∀(r:Addr) (H':Hp),bU H H'->iS H' L r (dI L x v n h n.toNat) (h.set (cu L x) v)->Q (.ref r) H')->fJ vs H Q xk
inductive ez(m:Nat)(vs:N2)(H:Hp)(Q:VK)(xk:XK):Prop
 | mk (b pl pp hd las pas ls) (names:L8) (fs:List Fn) (M gs) (E:L0) (h j):vs=[.ref b,.str (names.getD j ⟨#[]⟩),.ref hd]->cE H b pl pp las pas ls (bS names fs)->lV (bQ ls) names fs M gs E->j<⇑fs->j<m->lZ H (bQ ls) hd h->(∀(r:Addr) (H':Hp),bU H H'->iS H' (bQ ls) r (dV (bQ ls) names fs gs E j h) (cx (E.getD j []) h)->Q (.ref r) H')->ez m vs H Q xk
def DD{H:Hp}:¬ez 0 vs H Q E:=λz=>by
 rcases z with⟨_,_,_,_,_,_,_,_,_,_,_,_,_,_,_,_,_,_,h,_⟩
 rwa[uf h (Nat.not_lt_zero _)]
inductive gn(m:Nat)(vs:N2)(H:Hp)(Q:VK)(xk:XK):Prop
 | mk (b pl pp hd nb las pas ls) (names:L8) (fs M gs) (E:L0) (h) (k:Nat) (is:L6):vs=[.ref b,.ref nb,.ref hd]->cE H b pl pp las pas ls (bS names fs)->lV (bQ ls) names fs M gs E->fs[k]?⊂.side is->(H nb⊂(.tup (is.map λj=>.str (names.getD j ⟨#[]⟩))))->(∀j∈is,j<m)->lZ H (bQ ls) hd h->(∀(r:Addr) (H':Hp),bU H H'->iS H' (bQ ls) r (dV (bQ ls) names fs gs E k h) (cx (E.getD k []) h)->Q (.ref r) H')->gn m vs H Q xk
inductive iM(vs:N2)(H:Hp)(Q:VK)(xk:XK):Prop
 | mk (b pl pp las pas) (ls:L4) (names) (fs:List Fn) (M gs) (E:L0):vs=[.ref b]->cE H b pl pp las pas ls (bS names fs)->lV (bQ ls) names fs M gs E->1<=⇑fs->hB (ls.map (·.2))->(∀(l:Addr) (ras:L7) (H':Hp),bU H H'->H' l⊂(.lst (ras.map V.ref))->bX (gz H' (bQ ls)) ras (dV (bQ ls) names fs gs E (⇑fs-1) (ls.map (·.2))++[(cx (E.getD (⇑fs-1) []) (ls.map (·.2)),[])])->Q (.ref l) H')->iM vs H Q xk
theorem WL{pc:Nat->List Pc}:∀(n i:Nat) (t:Int),⇑(eC pc gs n i t)<=dU pc gs n i t
 | 0,i,t=>vb _
 | n+1,i,t=>by
  unfold eC dU;split
  .exact vb _
  .rw[List.length_flatMap];have:∀l:L3,(l.map λx=>⇑(eC pc gs n x.1 x.2)).sum<=(l.map λx=>dU pc gs n x.1 x.2).sum:=λl=>by
    induction l with
    | nil=>rwa[vb _]
    | cons x r ih=>
     have:=WL (pc:=pc) (gs:=gs) n x.1 x.2;rw[v9,v9,uz,uz];lia
   have:=this (de gs t (pc i));lia
def Hd:⇑(cO ps x)<=1:=by
 unfold cO;split
 .split
  .exact vb _
  .exact va _
 .exact va _
def MK(N:Sn ls (bS names fs) gs M)(j:Nat)(t:Int)(f:j<⇑fs)(g:0<=t):⇑(eD names fs gs j t)<=5000:=by
 have d:∀i,i<⇑(bS names fs)->⇑(M.getD i [])<=8:=λi e=>Dy N.s.w N.hl N.m (wp N.s N.hl e)
 have a:=N.nodes d (i:=j) (t:=t) (by rw[j3];rwa[f]) g;have b:=WL (pc:=cH (bS names fs) gs) (gs:=gs) (j+1) j t;have c:∀l:L3,⇑(l.flatMap (cO (bS names fs)))<=⇑l:=λl=>by
  induction l with
  | nil=>rwa[vb _]
  | cons x r ih=>
   rw[flatMap_cons,vn,vQ];have:=Hd (ps:=bS names fs) (x:=x);lia
 have c:=c (reach (bS names fs) gs j t);unfold eD;have b:⇑(reach (bS names fs) gs j t)<=Rm.nodes (bS names fs) gs j t:=b;lia
section
variable{ls:L4}{names:L8}{fs:List Fn}{M:L1}{gs:L5}{E E':L0}
def La(X:lV (bQ ls) names fs M gs E)(f:1<=⇑fs)(d:E'.length=⇑(bS names fs))(e:c9 ls (bS names fs) E')(t:Int):cJ ls (bS names fs) gs E' t=dR (bQ ls) names fs gs E (⇑fs-1) t (ls.map (·.2)):=by
 have b:⇑fs<=61:=by have:=X.m3;lia
 have a:fs.take (⇑fs-1+1)=fs:=by rw[show ⇑fs-1+1=⇑fs by lia,v5]
 have c:gs.take (⇑fs-1+1)=gs:=by rw[show ⇑fs-1+1=⇑gs by have:=X.D.gl;lia,v5]
 have h:=Hu (ls':=ls) (E':=E') (j:=⇑fs-1) (t:=t) X.D X.md X.nd X.i6 X.l8 b rfl (n:=⇑fs) ⋯ (vb _) X.e (by rw[a];rwa[d]) (by rw[a];rwa[e]);rw[a,c]at h;rwa[h]
end
end Rm
namespace L2
open PySem PySem.Spec PyProof.Rows
def cm.has{P:Program}{w:World}{H:Hp}{h:Heap}{a:Addr}{o:HO}(x:cm P w H h a o):∃b,h.get? a⊂b:=by
 cases o with
 | lst xs=>let⟨q,q,q,q,e⟩:=x;rwa[_,e]
 | tup xs=>let⟨q,q,q,q,e,q⟩:=x;rwa[_,e]
 | dK kvs=>let⟨q,q,q,q,o,q,q,e,q⟩:=x;rwa[_,e]
 | dT kvs=>let⟨q,q,q,q,o,q,q,e,q⟩:=x;rwa[_,e]
 | set S n=>let⟨o,q,q,q,e,q⟩:=x;rwa[_,e]
 | ins C dx fs=>let⟨q,q,q,e,q⟩:=x;rwa[_,e]
 | own y=>rwa[x]
 | xd fs=>let⟨q,⟨q,q,q,e,q⟩,q⟩:=x;rwa[_,e]
 | ue lo hi=>let⟨q,q,q,e⟩:=x;rwa[_,e]
 | gM b u=>let⟨e,q⟩:=x;rwa[_,e]
 | pq ps=>rwa[_,show h.get? a⊂_ from x]
 | met f y=>rwa[_,show h.get? a⊂_ from x]
 | ext φ=>let⟨q,e,q⟩:=x;rwa[e]
def sL(B:Heap)(l:Nr)(a:Addr)(cls:Value)(h:Heap):Prop:=
 B.StaysIn h/\B.get? a=none/\h.FunFrames B l/\
  ((∃a0,h.TracedW B a cls a0)\/∃oe vs a0,h.get? a⊂oe/\oe.cls=cls/\oe.data = .fields vs/\vs[1]?⊂.none/\vs[0]?⊂a0)
section
variable{M:Model}{A:Around}{E:Nz}{s:Shared}{B:Heap}{env:Env}{outer:Nr}{L a:Addr}{cls:Value}{Q:Unit->Shared->Prop}
def Fp(b:A.frames⊂(env::outer))(i:env.frame⊂L)(x:sL B (env::outer) a cls s.heap)
  (h:∀h',sL B outer a cls h'->s.heap.UpToSlots h'->Q () {s with heap:=h'}):wpAny M A (leaving env (.ref a)) Q E s:=by
 obtain⟨j,c,k,⟨a0,t⟩ | ⟨p,q,a0,o,rfl,n,m,l⟩⟩:=x
 .exact wpAny_leaving_nextW b k i t j c λh' ⟨d,⟨_,_,e⟩,f,g⟩=>h h' #[d,c,e,.inl #[a0,f]] g
 .exact wpAny_leaving_firstW (a0:=a0) b k i o j c n m l λh' ⟨d,⟨_,_,e⟩,f,g⟩=>h h' #[d,c,e,.inl #[a0,f]] g
def GH(b:A.frames⊂(env::outer))(f:env.frame⊂L)(x:sL B (env::outer) a cls s.heap)
  (j:∀h' a0,Heap.FlyingW B (env::outer) a cls a0 h'->s.heap.UpToSlots h'->Q () {s with heap:=h'}) :
  wpAny M A (noteFrame (.ref a) env) (λZ c=>wpAny M A (setFlight (.ref a) none) Q E c) E s:=by
 obtain⟨m,g,n,⟨a0,t⟩ | ⟨z,C,a0,l,rfl,k,i,o⟩⟩:=x
 .exact wpAny_looks_onW b f #[m,g,n,t] λp q r=>wpAny_landsW q λe d h=>j e a0 d (r.trans h)
 .unfold noteFrame;simp only[f];erw[uh (wpAny_field l k i ?_)];rw[vc nofun];refine wpAny_entryW b n f l m g k (Array.getElem?_eq_some_iff.mp i).1 o λp ⟨u,v,w,y⟩=>?_
  rwa[wpAny_landsW #[u,g,v,w] λe d h=>j e a0 d (Heap.UpToSlots.trans y h)]
end
noncomputable def iY(P:Program)(w:World):nz:=λouter H s E e s'=>∃a cls H' B,e = .ref a/\s.heap.get? a=none/\s'.os=s.os/\AllBare s'.gens/\
 Un (fc outer) [] H H' s.heap s'.heap/\eX P w H' s'.heap/\H' a=none/\sL B outer a cls s'.heap/\
 (∀b o,s'.heap.get? b⊂o->(H' b≠none\/∃o0,s.heap.get? b⊂o0)->b∉fc outer->B.get? b⊂o)/\E cls none H'
def XP(X:Cx)(pins:Ny)(σ:St)(E:XK)(e:Value)(s':Shared):Prop:=
 ∃a cls H' B,e = .ref a/\X.s₀.heap.get? a=none/\Inv X pins σ H' s'/\H' a=none/\sL B X.stack a cls s'.heap/\
  (∀b o,s'.heap.get? b⊂o->(H' b≠none\/(∃o0,X.s₀.heap.get? b⊂o0)\/∃p∈X.pn++pins,p.1=b)->b∉fc X.stack->B.get? b⊂o)/\E cls none H'
structure Flat(X:Cx):Prop where
 ex:X.ex=[]
 oH:X.stack=X.env::X.outer
 fr:X.env.frame⊂X.env.locals
 calm:X.calm=true
section
variable{X:Cx}{pins:Ny}{σ:St}{H:Hp}{s s':Shared}{E:XK}{e:Value}
def Flat.fs(F:Flat X):fc X.stack=X.env.locals::X.fs:=by
 rw[F.oH];unfold fc;rw[filterMap_cons,F.fr];rfl
def XP.oV(F:Flat X)(I:Inv X pins σ H s)(h:iY X.prog X.w X.stack H s E e s'):XP X pins σ E e s':=by
 let⟨a,g,k,B,rfl,w,y,c,A,j,n,f,i,t⟩:=h;have r:Inv X pins σ k s':=I.pJ (ch:=[]) y A j c (λb z=>uf z (by simp));have d:∀b o,X.s₀.heap.get? b⊂o->∃m,s.heap.get? b⊂m:=λb o e=>I.base.there b o e (by rw[F.ex];simp)
 erw[a,g,k,B,rfl,?_,r,n,f,λb o e q u=>i b o e ?_ u,t]
 .cases q:X.s₀.heap.get? a with
  | none=>rfl
  | some o=>let⟨m,l⟩:=d a o q;rw[w]at l;cases l
 .rcases q with q | ⟨x,q⟩ | ⟨p,v,rfl⟩
  .exact .inl q
  .exact .inr (d b x q)
  .exact .inr #[_,(I.pin p v).1]
def XP.oW{C:Addr}{us:L9}{h':Heap}{a:Addr}(F:Flat X)(I:Inv X pins σ H s)(c:Heap.MadeExcOf s.heap h' a (.ref C) us)(r:E (.ref C) none H):XP X pins σ E (.ref a) {s with heap:=h'}:=by
 let⟨t,j,y,Z⟩:=c.there;have m:Inv X pins σ H {s with heap:=h'}:=I.kept (h':=h') (t':=s.toks) c.keeps;have h:∀b o,X.s₀.heap.get? b⊂o->∃f,s.heap.get? b⊂f:=λb o e=>I.base.there b o e (by rw[F.ex];simp)
 have w:H a=none:=by
  cases q:H a with
  | none=>rfl
  | some o=>let⟨z,e⟩:=(I.cv a o q).has;rw[c.new]at e;cases e
 have k:∀d∈X.stack,∀b,d.frame⊂b->b∈fc X.stack:=λd j b i=>mem_filterMap.mpr #[d,j,i]
 erw[a,.ref C,H,PySem.W.hideAll s.heap (fc X.stack),rfl,?_,m,w,#[λb o e=>c.keeps b o (PySem.W.of_hideAll _ e),?_,?_,.inr #[_,_,.ref t,j,rfl,rfl,rfl,rfl]],λb o e q i=>?_,r]
 .cases q:X.s₀.heap.get? a with
  | none=>rfl
  | some o=>let⟨f,g⟩:=h a o q;rw[c.new]at g;cases g
 .cases q:(PySem.W.hideAll s.heap (fc X.stack)).get? a with
  | none=>rfl
  | some o=>have:=PySem.W.of_hideAll _ q;rw[c.new]at this;cases this
 .exact(PySem.W.funFrames_hide I.stack k).of_keeps λb o e Z=>#[o,c.keeps b o e,rfl]
 .refine PySem.W.hideAll_get _ ?_ i;have:∃f,s.heap.get? b⊂f:=by
   rcases q with q | ⟨x,q⟩ | ⟨p,v,rfl⟩
   .cases q':H b with
    | none=>rwa[uf q' q]
    | some u=>rwa[(I.cv b u q').has]
   .exact h b x q
   .exact#[_,(I.pin p v).1]
  let⟨f,g⟩:=this;have n:=c.keeps b f g;have l:h'.get? b⊂o:=e;rw[n]at l;cases l;rwa[g]
def XP.stays(F:Flat X){H':Hp}{B h':Heap}(I:Inv X pins σ H' s')
  (f:∀b o,s'.heap.get? b⊂o->(H' b≠none\/(∃a,X.s₀.heap.get? b⊂a)\/∃p∈X.pn++pins,p.1=b)->b∉fc X.stack->B.get? b⊂o)
  (st:B.StaysIn h') (m:s'.heap.UpToSlots h') :
  (∀b o,s'.heap.get? b⊂o->(H' b≠none\/(∃a,X.s₀.heap.get? b⊂a)\/∃p∈X.pn++pins,p.1=b)->b∉fc X.stack->h'.get? b⊂o)/\
  (∀b o,s'.heap.get? b⊂o->b∈fc X.stack->∃l,h'.get? b=some {o with slots:=l})/\eX X.prog X.w H' h':=by
 have h:∀b o,s'.heap.get? b⊂o->(H' b≠none\/(∃a,X.s₀.heap.get? b⊂a)\/∃p∈X.pn++pins,p.1=b)->b∉fc X.stack->h'.get? b⊂o:=λb o e q g=>st b o (f b o e q g)
 erw[h,λb o e g=>?_,λb u e=>?_]
 .let⟨_,n,i,k⟩:=I.stack.mem g;rw[e]at i;cases i;rwa[m b o e k]
 .have j:∀c v,H' c⊂v->c∉fc X.stack:=λc v q z=>by rw[I.ie c z]at q;cases q
  erw[(I.cv b u e).hW (λc v d q=>?_) (λZ q=>q) λZ Z q=>q]
  rcases d with rfl | d
  .exact h c v q (.inl (by rw[e];simp)) (j c u e)
  .exact h c v q (.inl (by rw[d];simp)) (j c _ d)
end
def XP.rT{P:Program}{w:World}{K:cp}{r:Nw}{g:Heap}{N:L8}{i:Str}{d:Scope}{f:Addr}{l:Value}{A:Around}{c:Nr}{s s':Shared}{H:Hp}{E:XK}{σ:St}{e:Value}
  (h:XP (dh (iY P w) P w K r g N i d f l A c s H E) [] σ E e s'):(dh (iY P w) P w K r g N i d f l A c s H E).xe e s':=by
 let⟨a,R,O,B,rfl,na,I,n,Q,C,hE⟩:=h;erw[Fp (L:=s⁻¹) I.ok.frames rfl Q λZ k up=>?_]
 let⟨W,Y,T⟩:=XP.stays (X:=dh (iY P w) P w K r g N i d f l A c s H E) #[rfl,rfl,rfl,rfl] I C k.1 up;have D:fc (dh (iY P w) P w K r g N i d f l A c s H E).stack=s⁻¹::fc c:=rfl;have nL:∀b o,s.heap.get? b⊂o->b≠s⁻¹:=λb o e=>vE (vI e)
 have x:∀b o,s.heap.get? b⊂o->b∉fc c->b∉fc (dh (iY P w) P w K r g N i d f l A c s H E).stack:=λb o e j z=>by
  rw[D]at z;rcases mem_cons.mp z with z | z
  .exact nL b o e z
  .exact j z
 have G:∀b:Addr,b∉(dh (iY P w) P w K r g N i d f l A c s H E).ex:=λb z=>uf (show b∈([]:L7)from z) (by simp)
 have F:∀b,b∈fc c->b∈fc (dh (iY P w) P w K r g N i d f l A c s H E).stack:=λb z=>by rw[D];rwa[vp _ z]
 erw[a,R,O,B,rfl,na,I.os,I.bare,#[λb o e m j _=>?_,λb o e m j _=>?_,λb o e m _=>I.base.free b o e m (G b),λb o e _=>?_,I.base.dF,I.base.gS,I.base.iO],T,n,k,λb o e q j=>?_,hE]
 .exact W b o (I.base.keep b o e m j (G b)) (.inr (.inl #[o,e])) (x b o e j)
 .let⟨sl,v⟩:=I.base.slot b o e m j (G b);let⟨J,y⟩:=Y b _ v (F b j);rwa[J,y]
 .let⟨t,v⟩:=I.base.there b o e (G b);by_cases j:b∈fc c
  .let⟨J,y⟩:=Y b _ v (F b j);rwa[_,y]
  .exact#[t,W b t v (.inr (.inl #[o,e])) (x b o e j)]
 .have S:∃t,s'.heap.get? b⊂t/\b∉fc (dh (iY P w) P w K r g N i d f l A c s H E).stack:=by
   rcases q with q | ⟨M,q⟩
   .cases q':O b with
    | none=>rwa[uf q' q]
    | some u=>
     let⟨ob,z⟩:=(I.cv b u q').has;rwa[ob,z,λzz=>by rw[I.ie b zz]at q';cases q']
   .let⟨t,v⟩:=I.base.there b M q (G b);rwa[t,v,x b M q j]
  let⟨t,v,nf⟩:=S;have q2:O b≠none\/(∃M,s.heap.get? b⊂M)\/∃p∈(dh (iY P w) P w K r g N i d f l A c s H E).pn++[],p.1=b:=by
   rcases q with q | q
   .exact .inl q
   .exact .inr (.inl q)
  have y:=C b t v q2 nf;have U:Z.get? b⊂o:=e;rw[k.1 b t y]at U;cases U;rwa[y]
noncomputable abbrev XS:=St->XK
noncomputable abbrev sZ:=St->Hp->XK->Prop
noncomputable abbrev mz:=St->Hp->XS->Prop
def BW(X:Cx)(pins:Ny)(E:XS)(e:Value)(s':Shared):Prop:=∃S',XP X pins S' (E S') e s'
def RE(X:Cx)(e:Expr)(t:sZ):Prop:=
 ∀(pins:Ny) (s:Shared) (σ:St) (H:Hp) (E:XK),Inv X pins σ H s->t σ H E->wpAny (model X.prog X.w) X.A (eval e X.env) (λq q=>False) (XP X pins σ E) s
def RS(X:Cx)(st:Stmt)(t:mz):Prop:=
 ∀(pins:Ny) (s:Shared) (σ:St) (H:Hp) (E:XS),Inv X pins σ H s->t σ H E->wpAny (model X.prog X.w) X.A (exec st X.env) (λq q=>False) (BW X pins E) s
def pG(X:Cx)(st:List Stmt)(t:mz):Prop:=
 ∀(pins:Ny) (s:Shared) (σ:St) (H:Hp) (E:XS),Inv X pins σ H s->t σ H E->wpAny (model X.prog X.w) X.A (execs st X.env) (λq q=>False) (BW X pins E) s
noncomputable def rE(t:sZ):mz:=λσ H E=>t σ H (E σ)
noncomputable def EV(tc:TT)(ta tb:mz):mz:=λσ H E=>tc σ H λb H1=>if b=true then ta σ H1 E else tb σ H1 E
noncomputable def rZ:mz:=λq q q=>False
section
variable{X:Cx}{e a b c:Expr}{t:sZ}{ta tb:mz}{x:Str}{pos pos':Pos}{st:Stmt}{rest l r:List Stmt}
def Mn(c:RE X e t)(d:swapsWith e none pos.line X.env=pure false:=by rfl):RS X (.Expr e pos) (rE t):=λa s b H E I h=>
 wpAny_Expr_any (wpAny_mono (c a s b H _ I h) (λj j z=>z.elim) λe f q=>#[b,q]) I.quiet d
def Hg:pG X l rZ:=λq q q q q q h=>h.elim
def WP(b:RS X st ta):pG X (st::rest) ta:=λa s c H E I h=>
 wpAny_execs_cons (wpAny_mono (b a s c H E I h) (λj j z=>z.elim) λj j q=>q)
def NR{j:TT}(n:PT X.i7 c j)(k:pG X l ta)(m:pG X r tb):RS X (.If c l r pos) (EV j ta tb):=λa s b H E I h=>by
 erw[wpAny_If (wpAny_mono (n a s b H _ (I.g7 _) h) (λd i z_=>?_) λq q z=>False.elim z)];obtain⟨e,f,g⟩:=z_;cases d with
 | true=>rwa[k a i b e E f.dA g]
 | false=>rwa[m a i b e E f.dA g]
end
section
variable{X:Cx}{k:Nat}{f C:Addr}{fd:FuncData}{ps:L8}{sp:Sp}{dvs:N2}{ds:L9}{E:XK}{x m:Str}{p pos apos:Pos}{e o:Expr}{es:Nt}{ta:TE}{t:TA}
def Mo{a:Ny}{g:St}{H:Hp}{s:Shared}{us:L9}{vs:N2}(F:dP X.prog X.w X.K X.mg X.base (iY X.prog X.w) k f fd ps sp)(m:dg k X.A)(i:Binds X.K fd ps ds)(j:Vals dvs ds)(c:Flat X)
  (I:Inv X a g H s) (r:Vals vs us) (h:sp (vs++dvs) H (λZ Z=>False) E):wpAny (model X.prog X.w) X.A (call (.ref f) us) (λZ Z=>False) (XP X a g E) s:=by
 have d:Vals (vs++dvs) (us++ds):=r.append j;have l:⇑(us++ds)=⇑ps:=by rw[<-⇑d];rwa[F.len _ _ _ _ h]
 erw[wpAny_call (codeAny_mono (F.run X.A X.stack s H #[us,[]] (us++ds) (vs++dvs) _ E m I.rP (i s us I.fT l) d h) λr n b=>?_)];cases r with
 | error e=>rwa[XP.oV c I b]
 | ok c=>
  cases c with
  | ret u=>let⟨Z,Z,Z,Z,Z,Z,Z,q⟩:=b;rwa[q.elim]
  | next=>rwa[False.elim b]
  | brk=>rwa[False.elim b]
  | cont=>rwa[False.elim b]
noncomputable def pW(C:Addr)(m:Str)(sp:Sp)(dvs:N2)(ta:TE)(t:TA):sZ:=λσ H E=>ta σ H λx H1=>∃a dx fs,x = .ref a/\H1 a⊂.ins C dx fs/\fs.lookup m=none/\
 t σ H1 λvs H2=>sp (x::(vs++dvs)) H2 (λq q=>False) E
def Iu{pl:Sem Bool}(r:PE X.i7 o ta)(c:lX X.K C)(e:Meth X.K C m f)(F:dP X.prog X.w X.K X.mg X.base (iY X.prog X.w) k f fd ps sp)(t:dg k X.A)(n:Binds X.K fd ps ds)(p:Vals dvs ds)(j:Flat X)
  (v:eval (.Call (.Attribute o m apos) [] [] pos) X.env=(do
   let ov <-eval o X.env
   standAt apos.atName
   let (f,first) <-holding [ov] (getMethod ov m pl)
   callWith pos f first (backTo pos (starEach [] X.env)) (backToKw pos (keywordEach [] X.env))):=by rfl) :
  RE X (.Call (.Attribute o m apos) [] [] pos) (pW C m sp dvs ta pk):=by
 intro b s y H E I h;erw[PySem.W.methodCall_KW (pl:=pl) (wpAny_mono (r b s y H _ (I.g7 _) h) (λu J z_=>?_) λZ Z z=>False.elim z) v];obtain⟨x,B,d,w,a,D,G,i,g,l,q⟩:=z_;subst i;obtain rfl:u=Value.ref a:=w;erw[Y7 d.dA g c e l ?_];rwa[PySem.W.callWith_K0 (first:=[.ref a]) d.dA.fT e.kp (Mo (us:=[.ref a]) (vs:=[.ref a]) F t n p j d.dA (.cons rfl .nil) q)]
end
def G3{K:cp}{h:Heap}{C:Addr}{d:L9}{a:String}(X:K.In h)(q:PySem.W.excIn K C d a=true) :
  ∃bm N nm g bs hdct sn sub ab col dd k0 k1 k2 k3 k5 mN,h.get? C⊂(excClassObj nm g C N bs bm hdct sn sub ab col dd k0 k1 k2 k3 k5 a)/\h.Ns N mN/\mN "__init__"= none/\OwnTail h d bm:=by
 unfold PySem.W.excIn at q;split at q
 .rename_i dd cd sl ho;split at q
  .rename_i C' bm k0 k1 k2 k3 n k5 hm hs;simp only[Bool.and_eq_true,beq_iff_eq,Bool.not_eq_true']at q;let⟨⟨⟨⟨⟨rfl,rfl⟩,b⟩,k⟩,c⟩,e⟩:=q;let⟨nm,bs,m,o,g,j,sn,sub,ab,col,i⟩:=cd;dsimp only at hm b c e;subst hm b;have f:sl = [k0,k1,k2,k3,some (.builtin n),k5].toArray:=by
    let⟨l⟩:=sl;simp only at hs;rw[hs]
   subst f;rwa[bm,o,nm,g,bs,j,sn,sub,ab,col,dd,k0,k1,k2,k3,k5,_,X _ _ ho,.of_isNs (PySem.W.isNs_of_in X c),PySem.W.nsMap_none_of_in X c e,PySem.W.tail_of_in X k]
  .cases q
 .cases q
noncomputable def r6(C:Addr):mz:=λσ H E=>E σ (.ref C) none H
def Iw{X:Cx}{x:Str}{C:Addr}{u e j:Pos}{b c:String}{d:L9}(k:ExcBaseFacts "ValueError" b c d)(l:Flat X)(r:Gl X x)(t:X.mg x=↥C)(p:PySem.W.excIn X.K C d b=true)
  (g:(x==("__debug__" : Str))=false:=by decide):RS X (.Raise (some (.Call (.Name x u) [] [] e)) none j) (r6 C):=by
 intro m s w H E I h;let⟨v,N,nm,q,bs,hdct,sn,sub,ab,col,dd,k0,k1,k2,k3,k5,mN,n,o,i,T⟩:=G3 I.fT p;refine wpAny_Raise_call_subT (C:=C) (nm:=nm) (q:=q) (N:=N) (bs:=bs) (bm:=v) (hdct:=hdct) (sn:=sn) (sub:=sub) (ab:=ab) (col:=col) (dd:=dd) (k0:=k0) (k1:=k1) (k2:=k2) (k3:=k3) (k5:=k5)
  k (mN:=mN) (T.hasType k.hasBase) (I.ok.hd l.calm) rfl i (kK I r t #[rfl,?_] g)
 rwa[evalArgs_empty #[rfl,va _,n,o,T,λy a f=>#[w,XP.oW l I f h]]]
section
variable{P:Program}{w:World}{K:cp}{mg:Nw}{base:Heap}
def Mz{k:Nat}{f:Addr}{name c:Str}{d:Arguments}{i:List Stmt}{a:Scope}{M kV m O g L oc:Value}{an od:Option Addr}
  {F:Array (Nv)} {N ps:L8} {sp:Sp} (lk:K.lookup f=some #[oc,od,.func (PySem.W.fnOf name c d i a M kV m O an g L),F]) (B:PySem.W.codeIn K g c=true) (S:bW N ps a)
  (len:∀vs H Q E,sp vs H Q E->⇑vs=⇑ps)
  (j:∀(A:Around) (outer:Nr) (s:Shared) (H:Hp) (vs:N2) (Q:VK) (E:XK),dg k (A.deeper (envOfC c a s⁻¹ f g))->sp vs H Q E->
   ∃t,pG (dh (iY P w) P w K mg base N c a f g A outer s H E) i t/\t (start N vs) H (λ_=>E)) :
  dP P w K mg base (iY P w) (k+1) f (PySem.W.fnOf name c d i a M kV m O an g L) ps sp:=by
 erw[len,λA outer s H J us vs Q E C p U r u=>?_];have X:=len _ _ _ _ u;have G:K.In s.heap:=p.mod.sJ.keeps λb o e=>(p.bs b o e).1
 have D:s.heap.NoLimit:=p.mod.nolimit.keeps λb o e=>(p.bs b o e).1
 have l:∀y∈ps.zip us,a.names.lookup y.1⊂.local\/(a.names.lookup y.1⊂.cell/\((cellsFrom (s⁻¹+1) a.names []).lookup y.1).isSome=true):=λ⟨n,v⟩ hy=>by
  rcases S.par n (of_mem_zip hy).1 with q | q
  .exact .inl q
  .exact .inr #[q,PySem.W.cellsFrom_some _ _ _ (.inl q)]
 erw[codeAny_call_function C.depth (G _ _ lk) rfl S.co S.gen rfl (PySem.W.codeRec_of G B) (U _ _ _ _ ?_)];erw[wpAny_newFunctionEnv_cells S.kind l λT W R x=>?_]
 subst W;erw[D.keeps x.toInCall.keep,codeAny_func ?_];let⟨t,Z,Y⟩:=j A outer s H vs Q E (C.deeper _) u;have I:Inv (dh (iY P w) P w K mg base N c a f g A outer s H E) [] (start N vs) H R:=xO S C.hd p X r x;rwa[wpAny_mono (Z [] R (start N vs) H _ I Y) (λ_ _ z=>z.elim) λe s' ⟨a0,q⟩=>XP.rT q]
def fi.Oh{x a:Str}{st:Stmt}{f:Addr}{g:FuncData}{N ps:L8}{k:Nat}{sp:Sp}(F:fi K x a st f g)(S:bW N ps (bR st))(len:∀vs H Q E,sp vs H Q E->⇑vs=⇑ps)
  (c:∀(b:Value) (A:Around) (outer:Nr) (s:Shared) (H:Hp) (vs:N2) (Q:VK) (E:XK),dg k (A.deeper (envOfC a (bR st) s⁻¹ f b))->sp vs H Q E->
   ∃t,pG (dh (iY P w) P w K mg base N a (bR st) f b A outer s H E) (dq st) t/\t (start N vs) H (λZ=>E)):dP P w K mg base (iY P w) (k+1) f g ps sp:=by
 let⟨p,q,kV,i,r,n,b,o,m,rfl,l,d⟩:=F.ex;rwa[Mz l d S len λA outer s H vs Q E j e=>c b A outer s H vs Q E j e]
end
noncomputable def so(cls:Value)(a:Addr):Heap->Prop:=λh=>∃o vs,h.get? a⊂o/\o.cls=cls/\o.data = .fields vs
noncomputable abbrev oR(cls:Value)(a:Addr):HO:=.ext (so cls a)
section
variable{X:Cx}{pins:Ny}{σ:St}{H:Hp}{s:Shared}
def Inv.landed{H':Hp}{B h':Heap}(F:Flat X)(I:Inv X pins σ H' s)
  (A:∀b o,s.heap.get? b⊂o->(H' b≠none\/(∃R,X.s₀.heap.get? b⊂R)\/∃p∈X.pn++pins,p.1=b)->b∉fc X.stack->B.get? b⊂o)
  (st:B.StaysIn h') (E:s.heap.UpToSlots h'):Inv X pins σ H' {s with heap:=h'}:=by
 let⟨D,J,C⟩:=XP.stays F I A st E;have w:∀b o,X.s₀.heap.get? b⊂o->b∉X.fs->b∉fc X.stack:=λb o e f z=>by
  rw[F.fs]at z;rcases mem_cons.mp z with z | z
  .exact uf (Nat.lt_of_lt_of_le (vI e) I.ok.above) (by rw[z];rwa[Nat.lt_irrefl _])
  .exact f z
 have t:∀b,b∈X.fs->b∈fc X.stack:=λb z=>by rw[F.fs];rwa[vp _ z]
 have a:∀c v,s.heap.IsCell c v->h'.IsCell c v:=λc v ⟨o,Q,G⟩=>by
  let⟨S,e⟩:=E c o Q λT q=>by rw[G]at q;cases q
  rwa[_,e,G]
 erw[I.ok,I.os,I.bare,#[λb o e n f j=>?_,λb o e n f j=>?_,I.base.free,λb o e j=>?_,I.base.dF,I.base.gS,I.base.iO],?_,λx c e=>?_,I.free,I.dM,λp H=>?_,C,I.len]
 .exact D b o (I.base.keep b o e n f j) (.inr (.inl #[o,e])) (w b o e f)
 .let⟨S,g⟩:=I.base.slot b o e n f j;let⟨y,h⟩:=J b _ g (t b f);rwa[y,h]
 .let⟨M,g⟩:=I.base.there b o e j;by_cases f:b∈X.fs
  .let⟨y,h⟩:=J b _ g (t b f);rwa[_,h]
  .exact#[M,D b M g (.inr (.inl #[o,e])) (w b o e f)]
 .let⟨m,P,O⟩:=I.loc;erw[m,E.ns P,λi x v g h N=>?_];let⟨u,r,l⟩:=O i x v g h N;erw[u,r,?_];rcases l with l | ⟨k,c,e,z⟩
  .exact .inl l
  .exact .inr #[k,c,e,a c _ z]
 .let⟨v,z⟩:=I.cell x c e;rwa[v,a c v z]
 .let⟨e,n,K,L,d⟩:=I.pin p H;erw[D p.1 p.2 e (.inr (.inr #[p,H,rfl])) ?_,n,K,L,d];rw[F.fs];intro z;rcases mem_cons.mp z with z | z
  .exact K z
  .exact L z
def Inv.known{T:Addr}{o:HO}(I:Inv X pins σ H s)(h:H T=none)(l:X.s₀.heap.get? T=none)(j:T≠X.env.locals)(i:∀x c,X.env.cells.lookup x⊂c->c≠T)(k:∀p∈X.pn++pins,p.1≠T)
  (f:cm X.prog X.w (upd H T o) s.heap T o):Inv X pins σ (upd H T o) s:=by
 have d:∀b u,H b⊂u->b≠T:=λb u e z=>by rw[z,h]at e;cases e
 have t:∀b u,X.s₀.heap.get? b⊂u->b≠T:=λb u e z=>by rw[z,l]at e;cases e
 erw[I.ok,I.os,I.bare,#[I.base.keep,I.base.slot,λb u e n m=>(jh (t b u e)).trans (I.base.free b u e n m),I.base.there,λb y e=>?_,λb u v e=>?_,λb w e=>?_],I.loc,I.cell,(jh (Ne.symm j)).trans I.free,λx c e=>(jh (i x c e)).trans (I.dM x c e),λp g=>?_,λb u e=>?_,I.len]
 .have:=I.base.dF b y e;rwa[(jh (d _ _ this)).trans this]
 .have:=I.base.gS b u v e;rwa[(jh (d _ _ this)).trans this]
 .let⟨a,this⟩:=I.base.iO b w e;rwa[a,(jh (d _ _ this)).trans this]
 .let⟨e,n,r⟩:=I.pin p g;rwa[e,(jh (k p g)).trans n,r]
 .by_cases z:b=T
  .subst z;rw[jA]at e;cases e;rwa[f]
  .rw[jh z]at e;rwa[(I.cv b u e).hW (λc v Z q=>q) (λc q=>(jh (d _ _ q)).trans q) λc A q=>(jh (d _ _ q)).trans q]
noncomputable abbrev Cx.fS(X:Cx)(A:Around):Cx:={X with A:=A,calm:=false,xe:=λq q=>False}
def Inv.fS(I:Inv X pins σ H s){A:Around}(a:A.frames=X.A.frames):Inv (X.fS A) pins σ H s:=
 #[#[I.ok.mod,I.ok.kind,I.ok.glob,I.ok.blt,I.ok.above,I.ok.inj,I.ok.has,I.ok.rO,(λz=>nomatch z),a.trans I.ok.frames,I.ok.oH,I.ok.uW,I.ok.bs,I.ok.nU,I.ok.mD,I.ok.mZ,I.ok.gA,I.ok.oS],I.os,I.bare,I.base,I.loc,I.cell,I.free,I.dM,I.pin,I.cv,I.len]
def Inv.rY{A:Around}(I:Inv (X.fS A) pins σ H s)(a:X.Ok):Inv X pins σ H s:=#[a,I.os,I.bare,I.base,I.loc,I.cell,I.free,I.dM,I.pin,I.cv,I.len]
def Gz{M:Model}{A:Around}{E:Nz}{i:Nat}{n:Str}{D:Pos}{Q:Unit->Shared->Prop}(I:Inv X pins σ H s)(N:X.N.Nodup)(hi:X.N[i]?⊂n)(O:X.env.scope.names.lookup n⊂.local)
  (h:∀s',Inv X pins (σ.set i none) H s'->Q () s'):wpAny M A (do bindName X.env n .none;unbindBehindTheSuite X.env n D) Q E s:=by
 let⟨m,F,B⟩:=id I.loc;erw[wpAny_nameGoes_keeps O F (by rw[I.ok.kind];rfl) λL v C f=>h _ ?_]
 let⟨oL,_,_,P,_⟩:=id F;have r:i<⇑σ:=by rw[I.len];rwa[(vx.mp hi).1]
 have a:eX X.prog X.w H L:=λb U e=>by
  erw[(I.cv b U e).hW (λc J l q=>(f.2 c ?_).trans q) (λ_ q=>q) λ_ _ q=>q]
  rintro rfl;rcases l with l | l
  .rw[<-l,I.free]at e;cases e
  .rw[I.free]at l;cases l
 erw[I.ok,I.os,I.bare,#[λb o e n w t=>?_,λb o e n w t=>?_,I.base.free,λb o e t=>?_,I.base.dF,I.base.gS,I.base.iO],#[_,C,λj y v' g u K=>?_],λy c e=>?_,I.free,I.dM,λp R=>?_,a,#v[I.len]]
 .exact(f.2 b (vE (Nat.lt_of_lt_of_le (vI e) I.ok.above))).trans (I.base.keep b o e n w t)
 .let⟨Y,g⟩:=I.base.slot b o e n w t;rwa[Y,(f.2 b (vE (Nat.lt_of_lt_of_le (vI e) I.ok.above))).trans g]
 .let⟨T,g⟩:=I.base.there b o e t;rwa[T,(f.2 b (vE (Nat.lt_of_lt_of_le (vI e) I.ok.above))).trans g]
 .by_cases x:j=i
  .subst x;rw[List.getElem?_set_self r]at u;cases u
  .rw[List.getElem?_set_ne (Ne.symm x)]at u;let⟨Z,W,q⟩:=B j y v' g u K;erw[Z,W,?_];rcases q with⟨k,e⟩ | ⟨k,c,e,z⟩
   .refine .inl #[k,?_];have:y≠n:=λe=>x (WD N g (e▸hi))
    simp[this,e]
   .exact .inr #[k,c,e,z.sameBut f (I.tu y c e)]
 .let⟨J,z⟩:=I.cell y c e;rwa[J,z.sameBut f (I.tu y c e)]
 .let⟨e,n,G,S,d⟩:=I.pin p R;rwa[(f.2 p.1 G).trans e,n,G,S,d]
end
def sj(K:cp)(c:Value)(i:Nat)(tn:TS)(tr:mz)(ts:TS):TS:=λD σ H=>
 tn D σ H\/tr σ H λS' cls q H'=>PySem.W.exmOne K cls c⊂true/\∀a,H' a=none->
  ts {nx:=λσ2 H2=>D.nx (σ2.set i none) H2,rt:=D.rt,bk:=λσ2 H2=>D.bk (σ2.set i none) H2,ct:=λσ2 H2=>D.ct (σ2.set i none) H2} (S'.set i (↥a)) (upd H' a (oR cls a))
def ME{X:Cx}{g t:List Stmt}{b0:Stmt}{x n:Str}{C:Addr}{i:Nat}{np Z a8:Pos}{tn:TS}{tr:mz}{ts:TS}(O:Flat X)(hN:X.N.Nodup)(hi:X.N[i]?⊂n)(hl:X.env.scope.names.lookup n⊂.local)
  (hg:Gl X x) (hm:X.mg x=↥C) (hb:lu X.i7 g tn) (hr:pG X g tr) (hs:∀A,lu (X.fS A) (b0::t) ts) (a4:(x==("__debug__" : Str))=false:=by decide) :
  PS X (.Try g [.ExceptHandler (some (.Name x np)) (some n) (b0::t) Z] [] [] a8) (sj X.K (.ref C) i tn tr ts):=by
 intro b s σ H D I h;rcases h with h | h
 .refine wpAny_Try_except (wpAny_mono (hb b s σ H D (I.g7 _) h) (λf s1 q=>?_) λ_ _ z=>False.elim z);have q:=q.dA;cases f with
  | next=>rwa[wpAny_execs_nil q]
  | ret v=>rwa[q]
  | brk=>rwa[q]
  | cont=>rwa[q]
 .refine wpAny_Try_except (wpAny_mono (hr b s σ H _ I h) (λ_ _ z=>z.elim) λe s1 xp=>?_);let⟨G,a,R,H',B,rfl,na,I1,nT,Q,M,U,a6⟩:=xp;have J:=Q;rw[O.oH]at J;have T:X.A.frames⊂(X.env::X.outer):=by rw[<-O.oH];exact I.ok.frames
  erw[GH T O.fr J λh5 a0 N a2=>?_]
  have I5:Inv X b G H' {s1 with heap:=h5}:=I1.landed O M N.1 a2;have a3:Inv (X.fS (X.A.mark (↥a))) b G H' {s1 with heap:=h5}:=I5.fS rfl;have LT:PySem.W.Looks (model X.prog X.w) h5 (typeOf (.ref a)) R:=by
   let⟨ob,a5,hc⟩:=N.there;subst hc;rwa[(PySem.W.Looks.ld a5).andThen .now]
  erw[wpAny_handleBy_cons (codeAny_handlers_test (kK (X:=X.fS (X.A.mark (↥a))) a3 hg hm ?_ a4)) (by intro q;cases q)];erw[(PySem.W.exm_one I5.fT LT U).here (codeAny_handlers_suite_as ?_)];erw[lands_againW N λh6 S a9=>?_]
  have I6:Inv X b G H' {s1 with heap:=h6}:=I1.landed O M S.1 (a2.trans a9);let⟨oe,ws,F,Y,l,_⟩:=S.first
  have I7:Inv X b G (upd H' a (oR R a)) {s1 with heap:=h6}:=by
   erw[I6.known nT na (λz=>?_) (λy c e z=>?_) (λp Z z=>?_) #[#[oe,ws,F,Y,l],#[oe,F],λh1 h2 ⟨o,vs,e1,e2,e3⟩ k=>#[o,vs,k o e1,e2,e3]]]
   .let⟨m,⟨o,es,ep,ho,W,_⟩,_⟩:=I6.loc;have j:h6.get? a⊂o:=by rw[z];exact ho
    rw[F]at j;cases j;rw[l]at W;cases W
   .let⟨v,o,ho,W⟩:=I6.cell y c e;have j:h6.get? a⊂o:=by rw[<-z];exact ho
    rw[F]at j;cases j;rw[l]at W;cases W
   .let⟨e,nn,ne,nf,_⟩:=I1.pin p Z;have a7:p.1∉fc X.stack:=by
     rw[O.fs];intro zz;rcases mem_cons.mp zz with zz | zz
     .exact ne zz
     .exact nf zz
    have:=M p.1 p.2 e (.inr (.inr #[p,Z,rfl])) a7;rw[z,Q.2.1]at this;cases this
  erw[Ki (X:=X) I7 hN hi (.inl hl) (v:=.ref a) rfl (λs8 I8=>?_) (.inr hl)];erw[wpAny_mono (hs (X.A.mark (↥a)) b s8 _ _ _ (I8.fS rfl) (a6 a nT)) (λf s9 q=>?_) λ_ _ z=>False.elim z]
  have E:∀{d:St} {K:Hp},Inv (X.fS (X.A.mark (↥a))) b d K s9->(∀P,Inv X b (d.set i none) K P->SP X b D f P)->
    wpAny (model X.prog X.w) X.A (do bindName X.env n .none;unbindBehindTheSuite X.env n Z) (λ_ a1=>SP X b D f a1) X.xe s9:=λ{d K} w k=>Gz (w.rY I.ok) hN hi hl k
  cases f with
  | next=>let⟨d,K,w,q⟩:=q;rwa[E w λP L=>#[_,_,L,q]]
  | brk=>let⟨d,K,w,q⟩:=q;rwa[E w λP L=>#[_,_,L,q]]
  | cont=>let⟨d,K,w,q⟩:=q;rwa[E w λP L=>#[_,_,L,q]]
  | ret u=>let⟨v,d,K,w,r,q⟩:=q;rwa[E w λP L=>#[v,_,_,L,r,q]]
def uK(K:cp)(c:Value)(i:Nat)(tn:TS)(tr:mz)(ts:TS):TS:=λD σ H=>∃Mid:St->Hp->Prop,sj K c i tn tr ts {nx:=Mid,rt:=D.rt} σ H/\∀S' H',Mid S' H'->D.nx S' H'
def Mb{X:Cx}{a b:List Stmt}{l:Stmt}{x n:Str}{C:Addr}{i:Nat}{K F g:Pos}{m:TS}{o:mz}{p:TS}(u:Flat X)(w:X.N.Nodup)(hi:X.N[i]?⊂n)(B:X.env.scope.names.lookup n⊂.local)
  (z:Gl X x) (E:X.mg x=↥C) (y:lu X.i7 a m) (G:pG X a o) (J:∀A,lu (X.fS A) (l::b) p) (e:(x==("__debug__" : Str))=false:=by decide) :
  PS X (.Try a [.ExceptHandler (some (.Name x K)) (some n) (l::b) F] [] [] g) (uK X.K (.ref C) i m o p):=by
 intro c s L H D I ⟨t,h,k⟩;erw[cC (ME u w hi B z E y G J e c s L H _ I h) λf M q=>?_]
 cases f with
 | next=>let⟨d,j,r,q⟩:=q;rwa[d,j,r,k d j q]
 | ret v=>rwa[q]
 | brk=>let⟨Z,Z,Z,q⟩:=q;rwa[q.elim]
 | cont=>let⟨Z,Z,Z,q⟩:=q;rwa[q.elim]
open PySem PySem.Spec PyProof.Rows PySem.W
structure j1(K:Frag)(C:Addr):Prop where
 ga:findIn K (.ref C) "__getattribute__"= some (some (.builtin "BaseException.__getattribute__"))
 nh:findIn K (.ref C) "__getattr__"= some none
 cls:findIn K (.ref C) "__class__"= some (some (.builtin "object.__class__"))
 base:subIn K (.ref C) (.type "BaseException")⊂true
 obj:subIn K (.ref C) (.type "object")⊂true
 is:isClsIn K C=true
section
variable{prog:Program}{w:World}{A:Around}{E:Nz}{K:Frag}{C a:Addr}
def tK{M:Model}{h:Heap}{cls:Value}(p:so cls a h):Looks M h (typeOf (.ref a)) cls:=by
 let⟨o,d,b,c,q⟩:=p;rwa[c▸(Looks.ld b).andThen .now]
def MS{R:Result->Shared->Prop}{h:Heap}{g:Array GenState}{d:Drawn}{t:Nat}{c:OsState}(Z:j1 K C)(X:K.In h)(p:so (.ref C) a h)(i:R (.ok (.ret (.ref C))) #[h,g,d,t,c]) :
  codeAny (model prog w) A (.call (.builtin "getset_descriptor.__get__") #[[.builtin "object.__class__",.ref a,.ref C],[]]) R #[h,g,d,t,c]:=by
 have e:Looks (model prog w) h (typeOf (.ref a)) (.ref C):=tK p;have b:(#[h,g,d,t,c]:Shared).TypeIs (.builtin "object.__class__") "getset_descriptor":=F.typeOf_object_class;have f:Looks (model prog w) h (isSubtype (.ref C) (.type (".".intercalate ("object.__class__".cutAt '.').dropLast))) true:=by rw[F.owner_object_class];rwa[looks_subIn X Z.obj]
 erw[codeAny_call_builtin F.slot_gs_get.plain F.entry_gs_get (F.slot_gs_get.check _ _ _ _ _ _ _ _ b (F.args_gs_get _ _ _) ?_)]
 repeat (any_goals (first | assumption | with_reducible refine Looks.at e ?_ | with_reducible refine Looks.at f ?_ | wp_step))
 erw[Code.quiet_builtin _ ∅,codeAny_builtin F.entry_object_class ?_]
 repeat (any_goals (first | assumption | with_reducible refine Looks.at e ?_ | wp_step))
def Lm{i:Tok}{Q:Fin->Shared->Prop}{h:Heap}{g:Array GenState}{d:Drawn}{t:Nat}{b:OsState}(Z:j1 K C)(X:K.In h)(p:so (.ref C) a h)(m:Q (.done (.ret (.ref C))) #[h,g,d,t,b]) :
  wpAny (model prog w) A (Builtin.«object.__getattribute__» #[[.ref a,.str "__class__" i],[]]) Q E #[h,g,d,t,b]:=by
 have c:Looks (model prog w) h (typeOf (.ref a)) (.ref C):=tK p;have e:=looks_findIn (M:=model prog w) X Z.cls;have f:(#[h,g,d,t,b]:Shared).TypeIs (.builtin "object.__class__") "getset_descriptor":=F.typeOf_object_class;have j:=F.typeOf_object_class;have k:=F.slot_gs_get.lookup;have l:=F.slot_gs_set.lookup
 repeat (any_goals (first | assumption | with_reducible refine Looks.at c ?_ | with_reducible refine Looks.at e ?_ | wp_step))
 erw[MS Z X p ?_]
 repeat (any_goals (first | assumption | wp_step))
def Lj{M:Model}{b:Value}{Q:Unit->Shared->Prop}{h:Heap}{g:Array GenState}{d:Drawn}{t:Nat}{e:OsState}(Z:j1 K C)(X:K.In h)(p:so (.ref C) a h)(k:Q () #[h,g,d,t,e]) :
  wpAny M A (checkBuiltinCall "BaseException.__getattribute__" #[[.ref a,b],[]]) Q E #[h,g,d,t,e]:=by
 have j:builtinKind "BaseException.__getattribute__"= some .slot:=by trivial
 have c:splitId "BaseException.__getattribute__"= some ("BaseException","__getattribute__"):=by trivial
 have f:Looks M h (typeOf (.ref a)) (.ref C):=tK p;have i:Looks M h (isSubtype (.ref C) (.type "BaseException")) true:=looks_subIn X Z.base;have l:=F.args_bexc_ga (.ref a) b;simp only[checkBuiltinCall,j,c];erw[uh ?_];unfold isInstance
 repeat (first | with_reducible refine Looks.at f ?_ | with_reducible refine Looks.at i ?_ | wp_step)
 rwa[k]
def Lk{Q:Option Value->Shared->Prop}{s:Shared}(Z:j1 K C)(X:K.In s.heap)(p:so (.ref C) a s.heap)(q:Q (↥C) {s with toks:=s.toks+1}) :
  wpAny (model prog w) A (getAttr? (.ref a) "__class__") Q E s:=by
 let⟨h,g,d,t,i⟩:=s;have c:Looks (model prog w) h (typeOf (.ref a)) (.ref C):=tK p;have e:=looks_findIn (M:=model prog w) X Z.ga;have L2:=looks_findIn (M:=model prog w) X Z.nh;have f:=F.attr_ValueError.ga.bind (.ref a);have b:(Value.builtin "BaseException.__getattribute__"== Value.builtin "object.__getattribute__")=false:=by trivial
 unfold getAttr? getAttrBy? getAttrBy;erw[uh (wpAny_mkText (uh (wpAny_attempt (wpAny_holding (uh (c.at (uh (e.at ?_))))))))];dsimp only;rw[show(onTheHeap (Value.ref C)&&Value.builtin "BaseException.__getattribute__"== Value.builtin "object.__getattribute__")=false from by rw[b];rfl];simp only[Bool.false_eq_true,if_false];unfold getAttrByItsOwn hookBefore;rw[show onTheHeap (Value.ref C)=true from rfl];simp only[if_true];erw[uh (L2.at ?_)];erw[uh (wpAny_attempt (wpAny_holding ?_))];unfold callGetattribute;simp only[Bool.false_and,Bool.false_eq_true,if_false];unfold boundAndCalled
 repeat (any_goals (first | assumption | wp_step))
 erw[codeAny_call_builtin F.attr_ValueError.ga.plain F.entry_bexc_ga (Lj Z X p (Lm Z X p ?_))]
 repeat (any_goals (first | assumption | wp_step))
def Ck(Z:j1 K C):KitX K (.ref a) (.ref C) (so (.ref C) a) where
 ty:=λY Y Y p=>tK p
 it:=λY Y X Y=>by
  have b:(clsIn K C).isSome=true:=Z.is;unfold clsIn at b;split at b
  .rename_i c' d' cd' sl' ho;intro g j i m k q;unfold isType loadHead;rwa[uh (wpAny_loadPart (k _ _ (X _ _ ho)) (ug q))]
  .cases b
 ne:=λh f l d n o X c=>by
  have b:(clsIn K C).isSome=true:=Z.is;erw[Bool.eq_false_iff.mpr λq=>?_]
  have e:C=f:=Value.ref.inj (beq_iff_eq.mp q);subst e;unfold clsIn at b;split at b
  .rename_i c' d' cd' sl' ho;have z:=(X _ _ ho).symm.trans c;cases z
  .cases b
 ca:=λX p k=>Lk Z X p k
end
section
variable{X:Cx}
def pV(K:Frag)(xs:N2)(H:Hp)(Q:VK):Prop:=∃a C d u b,xs=[.ref a,d]/\H a⊂(oR (.ref C) a)/\j1 K C/\RelV d u/\kitOne K (.ref C) u⊂b/\Q (.bl b) H
def xB:c8 X (.builtin "isinstance") (pV X.K):=by
 intro l s B H A x Q I r h;let⟨a,C,d,u,b,rfl,n,Z,g,e,q⟩:=h;let⟨v,c,rfl,o,f⟩:=vals2 r;cases(show v=Value.ref a from o);let⟨p,Y,Y⟩:=(show cm X.prog X.w H s.heap a (oR (.ref C) a)from I.cv a _ n)
 have m:kitOne X.K (.ref C) c⊂b:=by
  cases d with
  | ref D=>cases(show c=Value.ref D from f);cases(show u=Value.ref D from g);rwa[e]
  | ty T=>cases(show c=Value.type T from f);cases(show u=Value.type T from g);rwa[e]
  | cV=>cases(show u=Value.none from g);cases(show c=Value.none from f);rwa[e]
  | bl y=>cases(show u=Value.bool y from g);cases(show c=Value.bool y from f);rwa[e]
  | int i=>let⟨t,z⟩:=(show∃t,u=Value.int i t from g);let⟨k,j⟩:=(show∃t,c=Value.int i t from f);subst z j;unfold kitOne at e|-;rw[vc (by intro h;cases beq_iff_eq.mp h)]at e|-;rwa[e]
  | str i=>let⟨t,z⟩:=(show∃t,u=Value.str i t from g);let⟨k,j⟩:=(show∃t,c=Value.str i t from f);subst z j;unfold kitOne at e|-;rw[vc (by intro h;cases beq_iff_eq.mp h)]at e|-;rwa[e]
  | lO i=>let⟨t,z⟩:=(show∃t,u=Value.bytes i t from g);let⟨k,j⟩:=(show∃t,c=Value.bytes i t from f);subst z j;unfold kitOne at e|-;rw[vc (by intro h;cases beq_iff_eq.mp h)]at e|-;rwa[e]
  | pL i=>let⟨t,z⟩:=(show∃t,u=Value.float i t from g);let⟨k,j⟩:=(show∃t,c=Value.float i t from f);subst z j;unfold kitOne at e|-;rw[vc (by intro h;cases beq_iff_eq.mp h)]at e|-;rwa[e]
 rwa[kia_one (Ck Z) I.fT p m (λz=>nomatch z) λw=>#[.bl b,H,I.tok _,rfl,q]]
def DL{a C:Addr}{d:V}{u:Value}{b:Bool}{K:Frag}{H:Hp}{Q:VK}(c:H a⊂(oR (.ref C) a))(Z:j1 K C)(e:kitOne K (.ref C) u⊂b)(q:Q (.bl b) H)(f:RelV d u:=by rfl):pV K [.ref a,d] H Q:=#[a,C,d,u,b,rfl,c,Z,f,e,q]
def tY(K:Frag)(xs:N2)(H:Hp)(Q:VK):Prop:=∃(a C tp:Addr) (cs:L7) (b:Bool),xs=[.ref a,.ref tp]/\H a⊂(oR (.ref C) a)/\j1 K C/\H tp⊂(.tup (cs.map V.ref))/\kitAny K (.ref C) (cs.map Value.ref)⊂b/\Q (.bl b) H
theorem WZ:∀{a:L7} {us:L9},Vals (a.map V.ref) us->us=a.map Value.ref
 | [],_,.nil=>rfl
 | _::_,_,.cons r t=>by rw[WZ t];cases r;rfl
def GK:c8 X (.builtin "isinstance") (tY X.K):=by
 intro g s K H J G Q I r h;let⟨a,C,c,i,b,rfl,k,Z,m,e,q⟩:=h;let⟨v,B,rfl,A,x⟩:=vals2 r;cases(show v=Value.ref a from A);cases(show B=Value.ref c from x);let⟨p,Y,Y⟩:=(show cm X.prog X.w H s.heap a (oR (.ref C) a)from I.cv a _ k)
 let⟨Y,t,y,⟨o,j,d,n,f⟩⟩:=(show cm X.prog X.w H s.heap c (.tup (i.map V.ref))from I.cv c _ m)
 have l:=WZ y;subst l;let⟨D,E,u,w⟩:=o;dsimp only at d f;subst d f;rwa[kia_tup (Ck Z) I.fT p j e (λz=>nomatch z) λF=>#[.bl b,H,I.tok _,rfl,q]]
def W4:bootBuiltins "ValueError"= some (.type "ValueError"):=by trivial
def G8{t:mz}{a S':St}{H:Hp}{E:XS}(e:a=S')(h:t S' H E):t a H E:=by subst e;rwa[h]
def MI{e:TT}{c d:mz}{a:St}{H:Hp}{E:XS}(h:e a H λb H1=>if b=true then c a H1 E else d a H1 E):EV e c d a H E:=h
def NQ{t:sZ}{a:St}{H:Hp}{E:XS}(h:t a H (E a)):rE t a H E:=h
def Ir{C:Addr}{m:Str}{sp:Sp}{b:N2}{d:TE}{t:TA}{c:St}{H:Hp}{E:XK} (h:d c H λx H1=>∃a dx fs,x = .ref a/\H1 a⊂.ins C dx fs/\fs.lookup m=none/\
 t c H1 λvs H2=>sp (x::(vs++b)) H2 (λq q=>False) E):pW C m sp b d t c H E:=h
def Mi{K:Frag}{c:Value}{i:Nat}{g:TS}{d:mz}{e:TS}{D:Ends}{f:St}{H:Hp} (h:d f H λS' cls q H'=>exmOne K cls c⊂true/\∀a,H' a=none->
  e {nx:=λb H2=>D.nx (b.set i none) H2,rt:=D.rt,bk:=λb H2=>D.bk (b.set i none) H2,ct:=λb H2=>D.ct (b.set i none) H2} (S'.set i (↥a)) (upd H' a (oR cls a))):sj K c i g d e D f H:=.inr h
end
end L2
namespace Rm
open PySem PySem.Spec PyProof.Rows L2
noncomputable def mG(pc:Nat->List Pc)(gs:L5):Nat->Nat->Int->L3
 | 0,_,_=>[]
 | n+1,i,t=>if gs∘i<=t then[]else(i,t)::(de gs t (pc i)).flatMap λx=>mG pc gs n x.1 x.2
noncomputable def mF(ps:N1)(gs:L5)(i:Nat)(t:Int):L3:=mG (cH ps gs) gs (i+1) i t
section
variable{ls:L4}{ps:N1}{gs:L5}{hs:L1}
theorem CJ(W:dX ls ps):∀{n m i:Nat} {t:Int},i<n->i<m->mG (cH ps gs) gs n i t=mG (cH ps gs) gs m i t
 | 0,_,_,_,h,_=>uf h (Nat.not_lt_zero _)
 | _,0,_,_,_,h=>uf h (Nat.not_lt_zero _)
 | n+1,m+1,i,t,h1,h2=>by
  unfold mG;split
  .rfl
  .congr 1;exact JU λx a=>by
    have:=Qe W a;rwa[CJ W ⋯ ⋯]
def WK{i:Nat}{t:Int}(h:gs∘i<=t):mF ps gs i t=[]:=by
 unfold mF mG;rw[vd h]
def uZ(W:dX ls ps){i:Nat}{t:Int}(h:¬gs∘i<=t):mF ps gs i t=(i,t)::(de gs t (cH ps gs i)).flatMap λx=>mF ps gs x.1 x.2:=by
 unfold mF;rw[mG,vc h];congr 1;exact JU λx a=>by
  have:=Qe W a;rwa[CJ W ⋯ ⋯]
theorem Wk{p n:Type}{f:p->List n}{x:n}:∀{l:List p} {pre e:List n},l.flatMap f=pre++x::e->∃c∈l,∃a b r,f c=a++x::b/\e=b++r
 | [],pre,e,h=>by cases pre<;>simp at h
 | c::l,pre,e,h=>by
  rw[flatMap_cons]at h;rcases List.append_eq_append_iff.mp h with⟨i,o,g⟩ | ⟨i,o,g⟩
  .let⟨d,m,a,b,r,j,k⟩:=Wk g;rwa[d,vp _ m,a,b,r,j,k]
  .cases i with
   | nil=>
    rw[nil_append]at g;let⟨d,m,a,b,r,j,k⟩:=Wk (pre:=[]) (show l.flatMap f=[]++x::e from g.symm);rwa[d,vp _ m,a,b,r,j,k]
   | cons y i=>
    rw[cons_append]at g;injection g with e3 e4;rwa[c,vq,pre,i,l.flatMap f,by rw[o,e3],e4]
def Mj{q:Pc}{t r:Int}{y:nO}(e:mT gs q)(h:dE gs t q⊂y)(a:y.2.2.2⊂r):0<=r/\r<gs∘y.1:=by
 unfold dE at h;split at h
 .rename_i c;cases h;dsimp only at a|-;split at a
  .rename_i d;cases a;let⟨Z,f,Z⟩:=e;have b:ov gs t q=(t-q.2.2)/gs∘q.1:=by
    unfold ov at d|-;split
    .rename_i z;rw[vd z]at d;lia
    .rfl
   rw[b,Int.mul_comm];have g:=ve (t-q.2.2) (show gs∘q.1≠0 by lia);have i:=vf (t-q.2.2) (show 0<gs∘q.1 by lia);have j:=Int.emod_add_mul_ediv (t-q.2.2) (gs∘q.1);lia
  .cases a
 .cases h
def LZ(N:Sn ls ps gs hs):∀{i:Nat} {t:Int} {pre d:L3} {x:Nat×Int},mF ps gs i t=pre++x::d->∀y∈fj gs x.2 (cH ps gs x.1),∀r,y.2.2.2⊂r->(y.1,r)∈d:=by
 have W:=N.s.w;intro i
 induction i using Nat.strongRecOn with
 | ind i ih=>
  intro t pre d x h y g r f;by_cases c:gs∘i<=t
  .rw[WK c]at h;cases pre<;>simp at h
  .rw[uZ W c]at h;cases pre with
   | nil=>
    rw[nil_append]at h;injection h with h1 h2;subst h1;let⟨q,n,e⟩:=kQ g;have u:=Mj (N.m9 n) e f;have o:(y.1,r)∈de gs t (cH ps gs i):=by
     unfold de;erw[mem_flatMap.mpr #[y,g,?_]];unfold dW;rw[f];rwa[mem_append_right _ (vo.mpr rfl)]
    rw[<-h2];erw[mem_flatMap.mpr #[_,o,?_]];show(y.1,r)∈mF ps gs y.1 r;rw[uZ W ⋯];rwa[vq]
   | cons p pre=>
    rw[cons_append]at h;injection h with h1 h2;let⟨j,m,a,b,s,k,l⟩:=Wk h2;have:=ih j.1 (Qe W m) k y g r f;rw[l];rwa[mem_append_left _ this]
inductive eM(C:Addr)(vs:N2)(H:Hp)(Q:VK)(xk:XK):Prop
 | mk (a z) (ls:L4) (ps:N1) (gs hs E t):vs=[.ref a,.int t]->cZ C H a z ls ps gs E->Sn ls ps gs hs->0<=t->t<=gs∘(⇑ps-1)->(∀(r l1 l2:Addr) (as:L7) (P:L3) (H':Hp),bU H H'->H l1=none->H l2=none->H' r⊂(.tup [.ref l1,.ref l2])->H' l1⊂(.lst ((gv ls ps gs E t).map V.int))->⇑(gv ls ps gs E t)=⇑ls->(∀h∈gv ls ps gs E t,0<=h/\h<=10^18)->H' l2⊂(.lst (as.map V.ref))->l1≠l2->fk H' as P->⇑P<=5000->(∀x∈P,x.1<⇑ps/\0<=x.2/\x.2<gs∘x.1)->P.filter (d0 ps gs)=((reach ps gs (⇑ps-1) t).filter λx=>!iW gs x)->P=mF ps gs (⇑ps-1) t->Q (.ref r) H')->eM C vs H Q xk
noncomputable def gw(f:Nat->Int->PyData)(y:nO):PyData:=match y.2.2.2 with | some r=>f y.1 r | none=>.none
noncomputable def gh(ls:L4)(ps:N1)(gs:L5)(st:L5):Nat->Nat->Int->PyData
 | 0,_,_=>.none
 | n+1,i,t=>match ps[i]? with
  | some (_,.rise x _ _)=>.tuple [.int t,.int (st∘(cu (bQ ls) x))]
  | some (_,.hold _)=>.tuple [.int t]
  | some (_,.ring _ _)=>.tuple [.int t]
  | some (_,.side _)=>.tuple ((fj gs t (cH ps gs i)).map (gw (gh ls ps gs st n)))
  | some (_,_)=>.tuple [.int ((fj gs t (cH ps gs i)).map λy=>y.2.2.1).sum,(((fj gs t (cH ps gs i)).map (gw (gh ls ps gs st n))).getLast?).getD .none]
  | none=>.none
noncomputable def dC(ls:L4)(ps:N1)(gs:L5)(st:L5)(i:Nat)(t:Int):PyData:=gh ls ps gs st (i+1) i t
def Ee(W:dX ls ps){i:Nat}{t:Int}{y:nO}(h:y∈fj gs t (cH ps gs i)):y.1<i:=by
 let⟨q,a,e⟩:=kQ h;rw[Ka e];rwa[uX W a]
theorem CD{st:L5}(W:dX ls ps):∀{n m i:Nat} {t:Int},i<n->i<m->gh ls ps gs st n i t=gh ls ps gs st m i t
 | 0,_,_,_,h,_=>uf h (Nat.not_lt_zero _)
 | _,0,_,_,_,h=>uf h (Nat.not_lt_zero _)
 | n+1,m+1,i,t,h1,h2=>by
  have e:(fj gs t (cH ps gs i)).map (gw (gh ls ps gs st n))=(fj gs t (cH ps gs i)).map (gw (gh ls ps gs st m)):=map_congr_left λy a=>by
   have:=Ee W a;unfold gw;split
   .exact CD W ⋯ ⋯
   .rfl
  unfold gh;split<;>first | rfl | rw[e]
def Au{st:L5}(W:dX ls ps){i:Nat}{t:Int}:(fj gs t (cH ps gs i)).map (gw (gh ls ps gs st i))=(fj gs t (cH ps gs i)).map (gw (dC ls ps gs st)):=map_congr_left λy a=>by
 have:=Ee W a;unfold gw;split
 .exact CD W ⋯ ⋯
 .rfl
def CH{st:L5}{i:Nat}{t:Int}{nm x:Str}{v n:Int}(h:ps[i]?⊂(nm,.rise x v n)):dC ls ps gs st i t = .tuple [.int t,.int (st∘(cu (bQ ls) x))]:=by unfold dC gh;rw[h]
def CF{st:L5}{i:Nat}{t:Int}{nm:Str}{n:Int}(h:ps[i]?⊂(nm,.hold n)):dC ls ps gs st i t = .tuple [.int t]:=by unfold dC gh;rw[h]
def CG{st:L5}{i:Nat}{t:Int}{nm x:Str}{n:Int}(h:ps[i]?⊂(nm,.ring x n)):dC ls ps gs st i t = .tuple [.int t]:=by unfold dC gh;rw[h]
def CI{st:L5}(W:dX ls ps){i:Nat}{t:Int}{nm:Str}{xs:L8}(h:ps[i]?⊂(nm,.side xs)):dC ls ps gs st i t = .tuple ((fj gs t (cH ps gs i)).map (gw (dC ls ps gs st))):=by
 rw[<-Au W];unfold dC gh;rw[h]
noncomputable def ni(Y:List nO)(F:Nat->Int->PyData):PyData:=.tuple [.int (Y.map λy=>y.2.2.1).sum,((Y.map (gw F)).getLast?).getD .none]
def DH{st:L5}(W:dX ls ps){i:Nat}{t:Int}{nm:Str}{xs:L8}(h:ps[i]?⊂(nm,.row xs)):dC ls ps gs st i t=ni (fj gs t (cH ps gs i)) (dC ls ps gs st):=by
 unfold ni;rw[<-Au W];unfold dC gh;rw[h]
def Xg{st:L5}(W:dX ls ps){i:Nat}{t:Int}{nm x:Str}{k:Int}(h:ps[i]?⊂(nm,.again k x)):dC ls ps gs st i t=ni (fj gs t (cH ps gs i)) (dC ls ps gs st):=by
 unfold ni;rw[<-Au W];unfold dC gh;rw[h]
noncomputable def mE(ls:L4)(ps:N1)(gs:L5)(E:L0)(t:Int):PyData:=if gs∘(⇑ps-1)<=t then .none else dC ls ps gs (gv ls ps gs E t) (⇑ps-1) t
def KidsP(H:Hp)(xs:List OE)(F:Nat->Int->PyData)(Y:List nO):Prop:=∀y∈Y,DV H (hU xs [some (y.1:Int),y.2.2.2]) (gw F y)
end
def Ef{ls:L4}{ps:N1}{gs:L5}{g:L1}(N:Sn ls ps gs g){i:Nat}{t:Int}{nm:Str}{f:Fm}(a:ps[i]?⊂(nm,f))(l:0<=t)(c:(∃xs,f = .row xs)\/∃k x,f = .again k x):fj gs t (cH ps gs i)≠[]:=by
 have d:=(vx.mp a).1;have m:=N.g1 i d;obtain⟨j,r,e⟩:∃(j:Nat) (r:List Pc),cH ps gs i=(j,1,0)::r:=by
  unfold cH;rw[a];rcases c with⟨xs,rfl⟩ | ⟨k,x,rfl⟩
  .cases ei:cM ps (.row xs)with
   | nil=>
    have h:=(N.s.ln i _ a).2 0 (by show(0:Int)=_;dsimp only;rw[ei];rfl);lia
   | cons j r=>
    erw[j,cK gs r (0+gs∘j),?_];show cK gs (cM ps (.row xs)) 0=_;rw[ei];rfl
  .exact#[_,_,rfl]
 rw[e];unfold fj;have b:dE gs t (j,1,0)⊂(j,0,ov gs t (j,1,0),if ov gs t (j,1,0)<1 then some (t-0-ov gs t (j,1,0)*gs∘j)else none):=by
  unfold dE;rw[vd l]
 rw[filterMap_cons,b];rwa[λz=>nomatch z]
def Ak{C G:Prop}(a:C->G)(b:(C->G)->G):G:=b a
def HD{a:Type}{l:List a}{d:a}(h:l≠[]):∃x,l.getLast?⊂x/\l[⇑l-1]?⊂x:=by
 erw[l.getLast h,List.getLast?_eq_some_getLast h,?_];rw[<-List.getLast?_eq_getElem?];rwa[List.getLast?_eq_some_getLast h]
theorem B9{H:Hp}:∀{xs:N2} {ds:List PyData} {v:V} {d:PyData},hJ H xs ds->DV H v d->hJ H (xs++[v]) (ds++[d])
 | _,_,_,_,.nil,k=>.cons k .nil
 | _,_,_,_,.cons a r,k=>.cons a (B9 r k)
theorem D4{H:Hp}:∀{xs:N2} {ds:List PyData} {i:Nat} {d:PyData},hJ H xs ds->ds[i]?⊂d->∃v,xs[i]?⊂v/\DV H v d
 | _,_,i,_,.nil,h=>by simp at h
 | _,_,0,_,.cons a r,h=>by
  simp at h;subst h;rwa[_,rfl,a]
 | _,_,i+1,_,.cons a r,h=>by
  let⟨v,b,c⟩:=D4 r #v[h];rwa[v,#v[b],c]
theorem AU{H:Hp}:∀{xs:N2} {ds:List PyData},hJ H xs ds->⇑xs=⇑ds
 | _,_,.nil=>rfl
 | _,_,.cons _ r=>by rw[vQ,vQ,AU r]
inductive g4(P:Program)(w:World)(C:Addr)(vs:N2)(H:Hp)(Q:VK)(xk:XK):Prop
 | mk (a l d z) (ls:L4) (ps:N1) (gs hs E) (st:L5) (xs i t):vs=[.ref a,.ref l,.ref d,.int (i:Nat),.int t]->cZ C H a z ls ps gs E->Sn ls ps gs hs->H l⊂(.lst (st.map V.int))->⇑st=⇑ls->hI P w H d xs->i<⇑ps->0<=t->t<gs∘i->KidsP H xs (dC ls ps gs st) (fj gs t (cH ps gs i))->(∀(v:V) (H':Hp),bU H H'->DV H' v (dC ls ps gs st i t)->Q v H')->g4 P w C vs H Q xk
inductive g0(C:Addr)(vs:N2)(H:Hp)(Q:VK)(xk:XK):Prop
 | mk (a z ls) (ps:N1) (gs hs E t):vs=[.ref a,.int t]->cZ C H a z ls ps gs E->Sn ls ps gs hs->0<=t->t<=gs∘(⇑ps-1)->(∀(v:V) (H':Hp),bU H H'->DV H' v (mE ls ps gs E t)->Q v H')->g0 C vs H Q xk
noncomputable def lA(st:Addr)(L t:Int):List (Str×V):=cq "now" (.int t) (cq "last" (.int L) (cq "stage" (.ref st) []))
def Y6{st:Addr}{L t:Int}:(lA st L t).lookup ("stage" : Str)=↥st:=(Jl ∅).trans ((Jl ∅).trans Za)
def xJ{st:Addr}{L t:Int}:(lA st L t).lookup ("last" : Str)= ~~~L:=(Jl ∅).trans Za
def zZ{st:Addr}{L t:Int}:(lA st L t).lookup ("now" : Str)= ~~~t:=Za
def G5{st:Addr}{L t u:Int}:cq "now" (.int u) (lA st L t)=lA st L u:=by
 have a:¬(("stage" : Str) = "now"):=by trivial
 have b:¬(("last" : Str) = "now"):=by trivial
 have c:¬(("stage" : Str) = "last"):=by trivial
 unfold lA;simp only[cq,if_neg a,if_neg b,if_neg c,if_true]
def yj{st:Addr}{L t:Int}{m:Str}(a:¬m = "now")(b:¬m = "last")(c:¬m = "stage"):(lA st L t).lookup m=none:=(Jl a).trans ((Jl b).trans ((Jl c).trans rfl))
structure fO(CM CS:Addr)(H:Hp)(m st:Addr)(z:Sa)(ls:L4)(ps:N1)(gs:L5)(E:L0)(t:Int):Prop where
 ob:∃dx,H m⊂(.ins CM dx (lA st (gs∘(⇑ps-1)) t))
 sg:cZ CS H st z ls ps gs E
 ne:m≠st
def cZ.but{o:Addr}{H H':Hp}{m st:Addr}{z:Sa}{ls:L4}{ps:N1}{gs:L5}{E:L0}{C r:Addr}{fs:List (Str×V)}(l:H m⊂.ins C r fs)(s:m≠st)(A:cZ o H st z ls ps gs E)(k:∀c u,c≠m->H c⊂u->H' c⊂u):cZ o H' st z ls ps gs E:=by
 have n:∀{c:Addr} {f:N2},H c⊂.tup f->H' c⊂(.tup f):=λh=>k _ _ (λz=>by rw[z,l]at h;cases h) h
 have d:∀{c:Addr} {f:N2},H c⊂.lst f->H' c⊂(.lst f):=λh=>k _ _ (λz=>by rw[z,l]at h;cases h) h
 erw[A.ob.imp λr h=>k _ _ (Ne.symm s) h,k _ _ (λz=>by have:=A.hd;rw[z,l]at this;cases this) A.hd,d A.hf,d A.ho,bX.mono A.fo λa p h=>Wr.mpr (lJ.dF (λZ Z e=>n e) (Wr.mp h)),d A.hs,d A.hl,A.el,bX.mono A.ea λa e ⟨g,i,j⟩=>#[g,d i,bX.mono j λb q h=>n h],A.eo,d A.hp,bX.mono A.pa λa e ⟨g,i,j⟩=>#[g,d i,bX.mono j λb q h=>n h]]
def fO.same{a b:Addr}{H H':Hp}{m st:Addr}{z:Sa}{ls:L4}{ps:N1}{gs:L5}{E:L0}{t:Int}(A:fO a b H m st z ls ps gs E t)(s:bU H H'):fO a b H' m st z ls ps gs E t:=#[A.ob.imp λc h=>s _ _ h,A.sg.same s,A.ne]
inductive iH(CM CS:Addr)(vs:N2)(H:Hp)(Q:VK)(xk:XK):Prop
 | mk (m dx bx l f) (las das:L7) (ls ks gs hs):vs=[.ref m,.ref bx]->H m⊂(.ins CM dx [])->H bx⊂(.tup [.ref l,.ref f])->H l⊂(.lst (las.map V.ref))->bX (ft H) las ls->H f⊂(.lst (das.map V.ref))->j0 H das ks->mQ ls ks->Sn ls (fI ls ks) gs hs->(∀(st:Addr) (z:Sa) (E:L0) (H':Hp),(∀c u,c≠m->H c⊂u->H' c⊂u)->H st=none->fO CM CS H' m st z ls (fI ls ks) gs E 0->Q .cV H')->iH CM CS vs H Q xk
inductive gI(CM CS:Addr)(vs:N2)(H:Hp)(Q:VK)(xk:XK):Prop
 | mk (m st z ls) (ps:N1) (gs hs E t):vs=[.ref m]->fO CM CS H m st z ls ps gs E t->Sn ls ps gs hs->0<=t->t<gs∘(⇑ps-1)->(∀(l:Addr) (H':Hp),(∀c u,c≠m->H c⊂u->H' c⊂u)->H l=none->fO CM CS H' m st z ls ps gs E (t+1)->H' l⊂(.lst ((cP ps gs (t+1)).map V.str))->Q (.ref l) H')->gI CM CS vs H Q xk
inductive iC(CM CS:Addr)(vs:N2)(H:Hp)(Q:VK)(xk:XK):Prop
 | mk (m st z ls ps gs E t):vs=[.ref m]->fO CM CS H m st z ls ps gs E t->Q (.int t) H->iC CM CS vs H Q xk
inductive fB(CM CS:Addr)(vs:N2)(H:Hp)(Q:VK)(xk:XK):Prop
 | mk (m st z) (ls:L4) (ps:N1) (gs hs E t):vs=[.ref m]->fO CM CS H m st z ls ps gs E t->Sn ls ps gs hs->0<=t->t<=gs∘(⇑ps-1)->(∀(l:Addr) (H':Hp),bU H H'->H l=none->H' l⊂(.lst ((cJ ls ps gs E t).map V.int))->⇑(cJ ls ps gs E t)=⇑ls->Q (.ref l) H')->fB CM CS vs H Q xk
inductive iL(CM CS:Addr)(vs:N2)(H:Hp)(Q:VK)(xk:XK):Prop
 | mk (m st z ls) (ps:N1) (gs hs E t):vs=[.ref m]->fO CM CS H m st z ls ps gs E t->Sn ls ps gs hs->0<=t->t<=gs∘(⇑ps-1)->(∀(v:V) (H':Hp),bU H H'->DV H' v (mE ls ps gs E t)->Q v H')->iL CM CS vs H Q xk
def Ho{n:Nat}(ks:L5):iT (n+1) (.list (ks.map PyData.int)):=(iT.lst (n:=0) λd a=>by
 let⟨i,q,rfl⟩:=vK.mp a;rwa[iT.int]).mono ⋯
def cE.dF{H H':Hp}{b pl i:Addr}{d e:L7}{ls:L4}{ps:N1}(B:cE H b pl i d e ls ps)(f:∀c xs,H c⊂.tup xs->H' c⊂.tup xs)(g:∀c xs,H c⊂.lst xs->H' c⊂.lst xs):cE H' b pl i d e ls ps:=
 #[f _ _ B.t,g _ _ B.l,B.la.mono λa x h=>f _ _ h,g _ _ B.p,B.pa.mono λa x h=>cU.dF f h]
def CY(CM CS DN:Addr):Sp:=λvs H Q xk=>∃(m st:Addr) (z:Sa) (ls:L4) (ps:N1) (gs:L5) (E:L0),vs=[.ref m]/\fO CM CS H m st z ls ps gs E (gs∘(⇑ps-1))/\xk (.ref DN) none H
def CQ{L:L8}{names:L8}{fs:List Fn}{M:L1}{gs:L5}{E:L0}(X:lV L names fs M gs E)(b:1<=⇑fs)(t:Int):cP (bS names fs) gs t=eD names fs gs (⇑fs-1) t:=by
 have a:⇑fs<=61:=by have:=X.m3;lia
 have h:=He (j:=⇑fs-1) (t:=t) X.D X.md X.nd X.i6 X.l8 a ⋯;rw[show ⇑fs-1+1=⇑fs by lia,v5,show ⇑fs=⇑gs from X.D.gl.symm,v5]at h;rw[h,X.D.gl]
def LB{H:Hp}{L:L8}{names:L8}{fs:List Fn}{gs:L5}{E:L0}{a:L7}{h:L5}(f:1<=gs∘(⇑fs-1)){u:Nat}(i:(u:Int)<=gs∘(⇑fs-1))
  (R:bX (gz H L) a (dV L names fs gs E (⇑fs-1) h++[(cx (E.getD (⇑fs-1) []) h,[])])):∃b,a[u]?⊂b/\gz H L b (dR L names fs gs E (⇑fs-1) (u:Int) h,eD names fs gs (⇑fs-1) (u:Int)):=by
 have d:=R.1;rw[vn,Jm]at d;have d:⇑a=(gs∘(⇑fs-1)).toNat+1:=d;obtain⟨b,e⟩:∃b,a[u]?⊂b:=#[_,vz ⋯]
 erw[b,e,R.2 u b _ e ?_];by_cases c:(u:Int)<gs∘(⇑fs-1)
 .rw[vB (by rw[Jm];lia)];rwa[ZG c]
 .have g:(u:Int)=gs∘(⇑fs-1):=⋯
  rw[vC (by rw[Jm];lia),Jm,show u-(gs∘(⇑fs-1)).toNat=0 by lia,g,QI,yx f];rfl
def HR{ls:L4}{ps:N1}{gs:L5}{a:L1}(N:Sn ls ps gs a){i:Nat}(hi:i<⇑ps){t:Int}{S:L5}:∃ds,dC ls ps gs S i t = .tuple ds:=by
 have W:=N.s.w;cases e:ps[i]? with
 | none=>rw[vz hi]at e;cases e
 | some p=>
  let⟨b,f⟩:=p;cases f with
  | hold n=>rwa[_,CF e]
  | ring x n=>rwa[_,CG e]
  | rise x v n=>rwa[_,CH e]
  | row xs=>rwa[_,DH W e]
  | again k x=>rwa[_,Xg W e]
  | side xs=>rwa[_,CI W e]
def tN{K:cp}{t a b:Value}(c:PySem.W.kitOne K t a⊂false)(d:PySem.W.kitOne K t b⊂false):PySem.W.kitAny K t [a,b]⊂false:=by
 unfold PySem.W.kitAny;rw[c];show PySem.W.kitAny K t [b]=_;unfold PySem.W.kitAny;rw[d];rfl
def gz.pU{H H':Hp}{L:L8}{a:Addr}{x:L5×L8}(k:∀(c:Addr) (u:HO),(∀C d fs,u≠.ins C d fs)->H c⊂u->H' c⊂u)(r:gz H L a x):gz H' L a x:=by
 let⟨d,w,b,⟨g,h,o,e⟩,f⟩:=r;rwa[d,w,k _ _ (λq q q z=>nomatch z) b,#[g,h,o,k _ _ (λq q q z=>nomatch z) e],k _ _ (λq q q z=>nomatch z) f]
inductive gu(CM CS:Addr)(vs:N2)(H:Hp)(Q:VK)(xk:XK):Prop
 | mk (m st ra pl z) (las:L7) (ls) (ps:N1) (gs hs E t ws b):vs=[.ref m,.int t,.ref ra,.ref pl,.bl b]->fO CM CS H m st z ls ps gs E t->Sn ls ps gs hs->0<=t->t<=gs∘(⇑ps-1)->b=decide (t=gs∘(⇑ps-1))->gz H (bQ ls) ra (cJ ls ps gs E t,ws)->H pl⊂(.lst (las.map V.ref))->bX (ft H) las ls->(∀H',bU H H'->Q (.bl true) H')->gu CM CS vs H Q xk
inductive iD(CM CS:Addr)(vs:N2)(H:Hp)(Q:VK)(xk:XK):Prop
 | mk (m st z ls) (ps:N1) (gs E):vs=[.ref m]->fO CM CS H m st z ls ps gs E (gs∘(⇑ps-1))->(∀H',bU H H'->Q (.bl true) H')->iD CM CS vs H Q xk
end Rm
namespace L2
inductive dG(a0 a1:Prop):Prop | mk:a0->a1->dG a0 a1
inductive mu(a0 a1 a2:Prop):Prop | mk:a0->a1->a2->mu a0 a1 a2
inductive fq(a0 a1 a2 a3:Prop):Prop | mk:a0->a1->a2->a3->fq a0 a1 a2 a3
inductive mR(a0 a1 a2 a3 a4:Prop):Prop | mk:a0->a1->a2->a3->a4->mR a0 a1 a2 a3 a4
inductive iQ(a0 a1 a2 a3 a4 a5:Prop):Prop | mk:a0->a1->a2->a3->a4->a5->iQ a0 a1 a2 a3 a4 a5
inductive rz(a0 a1 a2 a3 a4 a5 a6:Prop):Prop | mk:a0->a1->a2->a3->a4->a5->a6->rz a0 a1 a2 a3 a4 a5 a6
inductive sO(a0 a1 a2 a3 a4 a5 a6 a7 a8:Prop):Prop | mk:a0->a1->a2->a3->a4->a5->a6->a7->a8->sO a0 a1 a2 a3 a4 a5 a6 a7 a8
inductive pE(a0 a1 a2 a3 a4 a5 a6 a7 a8 a9 a10 a11 a12 a13:Prop):Prop | mk:a0->a1->a2->a3->a4->a5->a6->a7->a8->a9->a10->a11->a12->a13->pE a0 a1 a2 a3 a4 a5 a6 a7 a8 a9 a10 a11 a12 a13
inductive dH{α0:Type}(p:α0->Prop):Prop | mk (x0) (h:p x0):dH p
inductive fW{α0 α1:Type}(p:α0->α1->Prop):Prop | mk (x0 x1) (h:p x0 x1):fW p
inductive iR{α0 α1 α2:Type}(p:α0->α1->α2->Prop):Prop | mk (x0 x1 x2) (h:p x0 x1 x2):iR p
inductive lK{α0 α1 α2 α3:Type}(p:α0->α1->α2->α3->Prop):Prop | mk (x0 x1 x2 x3) (h:p x0 x1 x2 x3):lK p
inductive nM{α0 α1 α2 α3 α4:Type}(p:α0->α1->α2->α3->α4->Prop):Prop | mk (x0 x1 x2 x3 x4) (h:p x0 x1 x2 x3 x4):nM p
inductive sQ{α0 α1 α2 α3 α4 α5:Type}(p:α0->α1->α2->α3->α4->α5->Prop):Prop | mk (x0 x1 x2 x3 x4 x5) (h:p x0 x1 x2 x3 x4 x5):sQ p
inductive rA{α0 α1 α2 α3 α4 α5 α6:Type}(p:α0->α1->α2->α3->α4->α5->α6->Prop):Prop | mk (x0 x1 x2 x3 x4 x5 x6) (h:p x0 x1 x2 x3 x4 x5 x6):rA p
inductive oO{α0 α1 α2 α3 α4 α5 α6 α7:Type}(p:α0->α1->α2->α3->α4->α5->α6->α7->Prop):Prop | mk (x0 x1 x2 x3 x4 x5 x6 x7) (h:p x0 x1 x2 x3 x4 x5 x6 x7):oO p
inductive rB{α0 α1 α2 α3 α4 α5 α6 α7 α8:Type}(p:α0->α1->α2->α3->α4->α5->α6->α7->α8->Prop):Prop | mk (x0 x1 x2 x3 x4 x5 x6 x7 x8) (h:p x0 x1 x2 x3 x4 x5 x6 x7 x8):rB p
inductive pF{α0 α1 α2 α3 α4 α5 α6 α7 α8 α9:Type}(p:α0->α1->α2->α3->α4->α5->α6->α7->α8->α9->Prop):Prop | mk (x0 x1 x2 x3 x4 x5 x6 x7 x8 x9) (h:p x0 x1 x2 x3 x4 x5 x6 x7 x8 x9):pF p
end L2
def L2.dB(a:sc.kind = .function:=by rfl)(b:sc.isCoroutine=false:=by rfl)(c:sc.isGenerator=false:=by rfl)(d:N.Nodup:=by trivial)(e:N.take ⇑P=P:=by rfl)(f:∀x∈P,sc.names.lookup x⊂.local\/sc.names.lookup x⊂.cell:=by trivial)(g:∀y∈sc.names,y.2≠.free:=by trivial):L2.bW N P sc:=#[a,b,c,d,e,f,g]
structure PySem.W.Fast:Prop where
  (tw16708199320183164452 tw18027906072111627555 tw9866513630341628422 tw14794921038177127902 tw10794539451460471772 tw16493137870831256373 tw6412402786087570468 tw11796670529354737172 tw18335200391222514754 tw5550328737482238087 tw1051639291056114485 tw6090867415279330837 tw408246033965569078 tw17260539824275857988 tw9677892377412840097 tw8014355035098022088 tw9523519320280689766 tw8776333532700408555 tw8111004719938698958 tw398435553627753336 tw1052703957896456796 tw16397117887682419363 tw18088574276044962841 tw3248831061452050294 tw15021711806754389058 tw11469643379490905959 tw13181341888831344787 tw17845177369028571176 tw15826405209280382519 tw8615999638186559284 tw945489989320344135 tw15530602924243342843 tw1123282495397331620 tw1977122697288550072 tw15312531592013474797 tw10273161127713462468 tw8105193039497578605 tw4275194168736759282 tw15808339545314031871 tw1224579677320129983 tw4835766575840118512 tw8407379936036852220 tw10087172813829068044 tw15350939708374082426 tw618518950734710477 tw3534714123613903528 tw4988035048625304581 tw3667223776893869859 tw18114111588600450839 tw15117058161566774239 tw14891655885217710831 tw10628988626641587061 tw8847914750759043136 tw8206089982085177583 tw6561269295122048854 tw11421751438031859753 tw9597741698123869103 tw3733132505597655062 tw14076246343449555598 tw4923001991040837029 tw4331783993007154519 tw7710360669881760711 tw12448055854563245741 tw16089203620572883394 tw13160346728140672355 tw10157859875241137784 tw11038541217649600854 tw4900236945958654209 tw16005371796001315503 tw11283616276469047993 tw5084988495653410190 tw15813580286412905190 tw9984225261285825755 tw16495636641176824844 tw4840589051864481928 tw11235291698247129338 tw17783819524626979346 tw10890335147108757920 tw313140805214162987 tw9782530550561271539 tw7954437050075289407 tw9758018698662462229 tw16142741998273315355 tw3773342227448429930 tw14683700510209441173 tw3208914640089393735 tw146070846626091414 tw17971697718671486368 tw870078064368532135 tw16902689613286460206 tw11365484926683494077 tw10745655495510461246 tw11545187637991106554 tw4280805192018471150 tw7022049015668869374 tw5491629571285336507 tw7504201860951049443 tw1687633607007580697 tw116539680971283600 tw17702135137719692498 tw17502713508625322597 tw15714954096703609317 tw2743149461516326899 tw9026605648131249340 tw8426597008082998275 tw1097902858383202488 tw15964987508148985939 tw17332479309174900757 tw13664912272733442318 tw15567031744016282865 tw14811155501558113839 tw2447609460535100999 tw1913138120794360220 tw14915668422793751623 tw15733188511847197326 tw14433061381634639967 tw15240848720779121945 tw1097995649666407182 tw15277519365474001116 tw12517805225584665769 tw15544075833675700735 tw10016723617616114139 tw7443613796606589958 tw2222670308719432131 tw17347771269177208998 tw8833974852472460816 tw13806011523481106284 tw10925299705326733423 tw13254945986047189138 tw9612422962741442096 tw9916357932109911080 tw16284517029311154365 tw5788673177145131498 tw7458400127914954298 tw3499927119322482839 tw3744502297133003397 tw16225024264047496604 tw2159141485222730757 tw3637415056126606309 tw10135640264166639696 tw234162298512470830 tw16868141132613034382 tw12116817463859899056 tw9969989111921177850 tw5693142034694606016 tw2525556747968018790 tw12576551413798505396 tw4902993660669465552 tw3506695606435283241 tw11461880484961739011 tw2688563005614836883 tw16027599395195223935 tw13914070082388286659 tw2817152176720888471 tw11037824962426780571 tw9538099565882765271 tw2059796498091010693 tw5976490499806635305 tw11598858787080108129 tw12159847412915821148 tw5616112853739470775 tw4876926663606646063 tw8786740205704168682 tw11895188581305913070 tw17192255017616890938 tw12223690317946091586 tw14286986691990542050 tw15730102488529472062 tw13984470308044066176 tw13602709274352956880 tw12853378156456900335 tw5674230783720307021 tw17264463549882539461 tw3871269486684467776 tw14616670835703453812 tw7851422102681493195 tw14422165826988728141 tw1324822154215311397 tw4765610738964500349 tw12937008995368226018 tw14555204205850554212 tw1176779663053870714 tw15074198842468238216 tw16765145241620370471 tw9597408171674855317 tw9964221265416588944 tw14999221950040874812 tw7631596525576602209 tw4152238560500679681 tw15830763249744455795 tw17717344385634473517 tw14894153267738235072 tw825431296812188664 tw10659286200931841121 tw1491850132224179930 tw10059560318462344123 tw11482068164096701615 tw18360413199191330998 tw8379746509477942232 tw3150039730928523298 tw2965631591875579639 tw10746357325425475224 tw5193360537528025580 tw15541964306559753527 tw9788285848948571591 tw1037777255224131366 tw7590838202825760419 tw15723482092200871342 tw9298309535210360844 tw8515312604780542574 tw401427876913163366 tw12117974255399061722 tw4066762018634923985 tw15089831911906759951 tw7395962333225439499 tw13621613232652754213 tw13292798860798991616 tw2010753967707836352 tw17949684241219379843 tw5353647754975224196 tw5052221483963251525 tw2857574545823658462 tw15810022698679706647 tw5281147335331438953 tw7267513039855453103 tw17166970904762468502 tw4996884012509522246 tw8060492617022873345 tw4744110391953164124 tw10638302829034914554 tw11833177743801807064 tw225989587311286645 tw1110159483317197665 tw14720320829466337411 tw12426983275280549993 tw11712609767705842675 tw14503985841572633140 tw16999879923872481813 tw6532484100299531317 tw3994954190061404721 tw16245388231311831554 tw12844489357250005024 tw12568715067019464041 tw12104975191856254449 tw2411932727539256959 tw8695299561013582878 tw12155434053126982517 tw17400230614521397947 tw634877813452301530 tw16854344450367473713 tw15983762451889808154 tw2022640819250778008 tw3227610674016247540 tw17517263732461029120 tw17038166324268959079 tw17582665967866305645 tw11634062775836650435 tw743083427725262589 tw15165317326915986255 tw16972990740068692332 tw14113392980185638157 tw18089955098117430983 tw13961423949612964828 tw14606791174684366505 tw16800920861901939441 tw307257941547803093 tw15174571124327735260 tw11205610815690540777 tw2119421564553367664 tw2710085517484410455 tw7350427651413840032 tw16243124596195717830 tw11287070212090259443 tw14486942096814965380 tw3749083340875356139 tw17132260795254809832 tw8600698928488390016 tw4947500751071602918 tw17733288844105456268 tw12270473407694385685 tw7457750035612720419:True)
namespace L2
open PySem PySem.Spec PyProof.Rows
structure dZ(K:cp)(mg:Nw)(x:Str)(st:Stmt)(f:Addr)(d:FuncData)(ps:L8):Prop where
  F:fi K x x st f d
  m:mg x=↥f
  B:Binds K d ps []
def jr{X:Cx}{x:Str}{st:Stmt}{f:Addr}{d:FuncData}{ps:L8}{j k:Nat}{sp:Sp}{e:Expr}{es:Nt}{p a:Pos}{t:TA}(D:dZ X.K X.mg x st f d ps)(F:dP X.prog X.w X.K X.mg X.base pA j f d ps sp)(n:dg k X.A)(g:PA X (e::es) t)(m:j<=k:=by decide)(l:Gl X x:=by rfl)(b:(x==("__debug__" : Str))=false:=by decide)(i:starEach (e::es) X.env=(false,eval e X.env)::starEach es X.env:=by rfl)(c:(backTo a (starEach es X.env)).any (·.1)=false:=by rfl):PE X (.Call (.Name x p) (e::es) [] a) (oo sp [] E0 t):=kY (F.mono m) n l D.m D.F.kp D.B .nil dy g b i c
end L2
set_option hygiene false
local macro_rules | `(tactic| rotate_right $n) => do
  let k:=n.getNat
  if k<100 then Lean.Macro.throwUnsupported
  let a<-`(some _)
  let b<-`(none)
  let xs:=Array.replicate (k/100) a++Array.replicate (k%100) b
  `(tactic| (refine L2.jC (S':=[$xs,*]) rfl ?_;try dsimp only[L2.dh,L2.Cx.i7]))
set_option hygiene true
local macro_rules | `(tactic| specialize $e) => do
  let i:=λ(k:String)=>Lean.mkIdent (Lean.Name.mkSimple k)
  `(tactic| (refine $e (fun $(i "vs") $(i "H") $(i "Q") $(i "E") $(i "h")=>?_) (fun $(i "cdv") $(i "A") $(i "outer") $(i "s") $(i "H") $(i "vs") $(i "Q") $(i "E") $(i "hr") $(i "h")=>?_);(focus cases $(i "h"):ident;subst_vars;rfl);have $(i "sz"):ident:(10000:Nat)<PySem.sizeLine:=by decide))
def Rm.bZ{b:Bool}{A B:Prop}(h:B)(e:b=false:=by trivial):if b=true then A else B:=Rm.fe e h
def Rm.cI{b:Bool}{A B:Prop}(h:A)(e:b=true:=by trivial):if b=true then A else B:=Rm.lR e h
namespace K38
def kdD:Array (List Char):=(("=80: arfl =80« =801 =80/ =80. ajd =805 =80< =S0% =80E a5 a2 a~2 a3 bjX =Ä0_ bjg a4 =B0> a~4 bpv ajG a1 =Ç0ŵ a6 =L0Ƽ dcz =ę1ŵ =ȋ0% =ű0ɇ cjb =40Ȗ dju a7 ajD.nd =³2_ =X1C =S0( =R2C =80f dji =Ѕ0ɑ =Ș0ș ahr a!book ajQ.nd =B1B =þ0ĸ =Ʋ3Ů =R0> =³2? =D0ǈ =Ʊ2ƶ =Ð0Ĵ =Џ0ȴ =80ø b[ a.nil =ę1? =Ȉ3? =Ï0) =309 a!found c[ ady a8 a!_law_j =Ñ0% =S0= =Г0w =40M =40X a!form ahr.units ajU.nd =Ȳ0¢ =´1) =U4R =Е00 =80Ĭ =80ù bQ8 b:i a!_law_names a!_law_some =´19 =³2µ =Ó1> =Ɩ0ȏ aJs.nd aZY.nd =Ț0O =ĵ3Î =Í0ǈ =Î1® =H0Ô ==0' =Í0Ǟ =Н0% =Ç0? a0 ezn aZF ccN a[ aQo aJj.nd m[ =Ȫ2O =T0Ƴ =ę1_ =ę1µ =Í0Æ =S0& =П0Ɋ =p0# =V2% =H1å =ů0ƭ =G3a ==0@ =С0ɨ =ǚ0Ƥ =Ä0µ =Ʋ3ț bjH azr.nd aJg bjK aZJ.nd aT.JL aW7 a13 a15 =D2) =Ђ0ŷ =D0Ǟ =Ȩ0$ =Ќ0ʞ =Ѝ10 =Ȏ14 =z0, =T2) =ȑ3ʈ =Ȑ0A =Ă1] =Õ0ň =30* =U3> ==0# =³2Ȓ =S0' =D0Ǝ =40Ư b:ow b:ci bKZ aZ6 aZ5 a!number a!name a!row a!moves aQr.nd a!inside aqm.nd aqK.nd aYm aJF.nd aJX.nd a!_law_movers a!_law_kind a!_law_used a!_law_at a!_law_twice a!_law_form_here aJW.nd a9 a10 a!_law_book_here a!_law_heights a!_law_rows aj5.nd =L2) =Ј0Ƞ =Ў0« =Ȣ07 =Б0] =£2; =D1D =Ȕ0% =ȓ0Ɉ =Щ2˔ =ă3® =¤0· ={3# =Ы0ȝ =г0d =Ķ0* =Ķ0' =Ķ0% =z0¸ =T2; =T0î =Ɩ0д =ɪ0$ =е0ɰ =D0Ģ =80į =B14 cja d[ a!limbs aYS.nd b:v i[ aT.Wb akz aYp aQ7 azR.nd jkZ aT.jP e< lKb a!_law_one bWI aQa.nd a!_law_name a11 aT.JY awD a12 a16 a!_law_limb aYb =Ÿ0® =Ű4Ź =U4C =þ0Ƽ =Ȉ3_ ajp a!other dwQ aT.Zy aT.Qx axc aT.ZQ eYQ b.ref aT.qw ckI aXR ayq aYD.nd bjT f[ aYY aT.vk aXB a!part h[ a!length cwM avR auY cZi aJQ.nd awV a!_law_known aQL.nd a!_law_pool a!_law_bounds a!_law_times a!_law_many aJR.nd aT.zd aX7 aT.zc aX4 aqo.nd a!_law_runs a!_law_now a!_law_words a!_law_behind a!_law_there jkY aZq.nd g[ a!_law_machine a!_law_beat a!_law_row a!_law_limbs a!_law_last_here a!_law_found =ȕ0ƴ =Ё1$ =ĳ2ĳ =Ѓ1ȯ =ȣ0Ȥ =Ų1Ȧ dAY ajc aQ9.nd aPassesOwn.never cjz aJa aT.Zs aX8 aQ5 dWJ ayF.nd ayG.nd a!height azQ dBe aT.Bt aT.wI aHK a!limb a!left bBc cke bKE aT.Bs aAM bKC ayr a!sizes bKD aT.Br aAL aT.Zf bWE.mono aT.ZL bPW.pt cQY bWP bA6 aT.zx aW9 aWc aT.Bq aAK a14 bBa ayH.nd cA7 bBb bZV eAs azN.nd aT.zu aT.zS aT.Q4 aWH =ȍ6ų =Ƀ0$ =М0ˁ =Ě1ě =О0¢ =Р1ˑ djO ejt ajZ a~0 aEA ajw aKY aT.yf azV a!parts a~3 ajv aT.Y2 aFf aT.Cw axz a!forms a!kept a!anew a!place dYQ aT.xA aT.Xi aJh dCK aEL akj.nd aq3 a!numbers aq7 fEc aWR.nd aT.A0 aLx ejq aZX.nd aZ9 aqa jDG aT.Y3 aFs byv b^1 cEd aT.Dx ajY aEz j[ a!_law_number azo aQj cxC aT.yP aX3 aT.yc aW8 aWd aQi aT.qd.m aT.qd.F.kp aT.qd.B aEM bWe a!_law_inner a!_law_more ayE.nd e[ a!begin a!over a!rest aya eDh aT.jL a!list aQk aT.yd axa aT.yJ bwA.mono aT.yM aT.yK bwB.mono aT.yN bwC.mono axB aT.yO aX1 =ȭ10 =ɐ5? =ȉ0ǌ =ɵ1$ =ņ0Ȋ =Ћ0á =ɕ2ƶ =Ɨ1ʉ =Í0° =ő1ʇ =ę1¶ =Т1ľ =Х1ǹ bbT bjy aLR b:K aK bJt a~1 fj6 aqr hJu fbY.of bbR aZH bJP b^5 d< djW aJJ fj4 cJx fzK ejr aHM dLW fjB aGL aT.JO aJf bFv dJH cZE aQM aNA at.Qb aT.XC fLV dHS aMa a~5 dGS bMF dND bW5 aT.DY aLy fjo b.inr aT.xj aFL gFT ajR aqT awR a!box a!names cYL dJ3 aT.xq aFO gJI aq4 aq5 ajM awS dqJ aPySem.F.slot_dict_update aPySem.F.type_dict_update aGy bFu bXD aPySem.F.slot_dict_items aPySem.F.type_dict_items aIk awT bNm a!move azM aT.C3 aHL aT.kq axb aT.wd aX9 aYn gNP b.inl aMD aZI aT.we aE7 dyu a!self aT.xm aFN aT.wg aE8 cJi aT.Ln bkS.mono aT.Ij aT.Kl aT.xi aFK aLS fHU cMG aPySem.F.slot_list_pop aPySem.F.type_list_pop aNi aPySem.F.slot_list_extend aPySem.F.type_list_extend aGw aT.Cq aGP dYo aset_list bQJ dNR fIw aPySem.F.excBase_ValueError aT.Kk aHg dGV aMC aT.kM bkT.mono aT.Km azL cXh bK1 aPySem.F.slot_list_index aPySem.F.type_list_index aGx aE9 dNH aT.Ft aKg.nd aT.jN aX5 aT.YX aWG aT.Z0 akW aT.ZZ akU aT.wb aX2 aQn a!_law_run_here bLY bwE.mono bNat.le_succ_of_le ahrl aT.Qw.m aT.Qw.F.kp aT.Qw.B ayB aW2 aT.Q3.m aT.Q3.F.kp aT.Q3.B aNC bLX bQn.mono bNat.le_succ aT.qd aSQ aT.DZ aLz aT.YT bYV.mono aT.Y1 a!stage a!starts a!gone a!pins iHP b:P aP b:w aw aHN aT.xt aFQ bMM eDF aT.xr aFP aT.JN aJA fYO b.ty a!int aT.MU aLO bNF a!bool aT.LK aID aYC.nd iZh aT.Y8 bkc.mono aT.ko bGJ aT.MT aLN aNB a!tuple kMb aT.XY bMn iIu bKW.mono aGK at.kA aT.Gr at.kB aT.Gs at.QE a!ValueError aT.Xz aW4 bGN aT.wa aX0 aT.wc aX6 aT.Dw aHJ aT.GD bYU.mono aT.FJ aT.Y0 dGR bNl =ȥ2ƻ =ȧ1$ =`2Ȱ =Ȍ2ɓ =Є1ɒ =ȟ4ƻ =І3$ =Ї2$ =Ȟ3ÿ =Љ2$ =Њ1â =G1ʟ =Ȝ4? =®1ů =ȳ1) =ƫ6Ā =А4ā =ɂ3Ƭ =В2$ =ɍ2? =Д1Ł =Ğ7˄ =Ж6c =З5m =И4˃ =Й3ŋ =К2ë =Л1˂ =ɯ2$ =ȩ4$ =Ʈ1ɋ =ķ2˒ =Í1) =Ò2ż =˝7e =У6^ =Ф4O =ư2˓ =Ц6$ =Ч30 =Ш2ĝ =Ò2ƹ =Ъ1Ƹ =Y3ů =Ь2: =Э1ů =Ю0« =ƫ6Я =а4Ɍ =б57 =в47 =ʕ1ʖ =d1P".splitOn " ").map (·.toList)).toArray
def kdA(c:Char):Nat:=let n:=c.toNat;if n<92 then n-35 else if n<127 then n-36 else if n<768 then n-70 else n-326
def kdR:Nat→Nat→Nat
 | 0,_=>0
 | n+1,k=>match kdD[k]! with
  | ['=',p,_,c]=>kdR n (kdA p)+kdR n (kdA c)-1
  | c::_=>c.toNat-97
  | _=>0
open Lean in
def kdM(Z:Array Term):Nat→Nat→Array Term→MacroM Term
 | 0,_,_=>Macro.throwUnsupported
 | n+1,k,a=>match kdD[k]! with
  | ['=',p,i,c]=>do
   let i:=i.toNat-48
   let m:=i+kdR 99 (kdA c)
   let x←kdM Z n (kdA c) (a.extract i m)
   kdM Z n (kdA p) (a.extract 0 i++#[x]++a.extract m a.size)
  | _::c::r=>
   let s:=String.ofList r
   match c with
   | '!'=>return Syntax.mkStrLit s
   | '~'=>return Z[s.toNat!]!
   | ':'=>return ⟨mkNode ``Parser.Term.namedArgument [mkAtom "(",mkIdent s.toName,mkAtom ":=",a[0]!,mkAtom ")"].toArray⟩
   | '['=>`([$a,*])
   | '<'=>`(⟨$a,*⟩)
   | '^'=>s.toNat!.foldM (λ_ _ x=>`(fun _=>$x)) a[0]!
   | '.'=>return Syntax.mkApp ⟨mkNode ``Parser.Term.dotIdent [mkAtom ".",mkIdent s.toName].toArray⟩ a
   | _=>return if c.isDigit then Syntax.mkNumLit (String.ofList (c::r)) else Syntax.mkApp (mkIdent (String.ofList (c::r)).toName) a
  | _=>Macro.throwUnsupported
open Lean in
def kdP(Z:Array Term):Nat→List Char→MacroM (Term×List Char)
 | n+1,c::l=>do
  let mut l:=l
  let mut a:=#[]
  for _ in [:kdR 99 (kdA c)] do
   let (x,r)←kdP Z n l
   a:=a.push x
   l:=r
  return (←kdM Z 99 (kdA c) a,l)
 | _,_=>Macro.throwUnsupported
open Lean in
local macro_rules | `(#v[$s:str]) => do return (←kdP [←`(_),←`(by with_unfolding_all rfl),←`(by rfl),←`(∅),←`(nofun),←`(by simp)].toArray 9999 s.getString.toList).1
noncomputable section
set_option hygiene false
local macro_rules | `($n <* $f $as*) => `(dP P w K mg base pA $n $f $as*)
set_option hygiene true
open PySem L2 Rm
def top(i:Nat):Stmt:=PySem.Challenge.pw_camplay_k38_stepped.main.body.getD i (.Pass #[0,0,0,0])
open Lean in
local macro_rules | `(#print $s:str) => do
 let c←(s.getString.splitOn ";").mapM λx=>do
  let w:=x.splitOn " "
  let i:=λk=>mkIdent (w.getD k "").toName
  let q:=λk=>Syntax.mkNumLit k
  let l:Array Term:=((w.drop 4).map λs=>Syntax.mkStrLit (s.replace "'" "_law_")).toArray
  let p:=l.extract 0 (w.getD 3 "").toNat!
  let z←match (w.getD 2 "").splitOn "," with
   | [a,b]=>`(inClass (top $(q a)) $(q b))
   | a=>`(top $(q a[0]!))
  return mkNullNode [←`(abbrev $(i 0):ident:Stmt:=$z),←`(def $(i 1):ident:bW [$l,*] [$p,*] (bR $(i 0)):=dB)].toArray
 return mkNullNode c.toArray
#print "Aw OA 0 1 k;yD Q9 11 1 named numbers number one;kf Fz 12 1 form;ZH Fi 15 3 form limbs parts;Bm YS 16 1 book limbs numbers known name form;K5 yF 17 2 forms drum needed number other;wR zr 18 1 book found forms kept limbs anew place number;K6 yG 19 1 number name;zQ kj 20 1 box limbs names;wS YD 22 1 book numbers found name form;Bl ZJ 23 1 book limbs found part inside form left other;wT WR 24 1 book found left;zM ZX 25 3 row moves limbs number limb;Yz Fj 26 2 form inside;Z9 Qr 27 1 book moves found row inside form length;Bn Mp 29 4 start goal beats j;YB qm 31 3 form inside sizes part later found begin;ZI Fl 32 2 book sizes;kg qK 33 3 pieces sizes gone found part turns begin over rest;WQ zR 35 3 pieces sizes gone found part begin over rest;qa Kf 36,0 2 self book;ZW JF 36,1 2 self beat starts playing todo now limb height;Qq j5 36,2 2 self beat scene heights part gone form limb;QZ JQ 36,3 2 self beat words part gone form;ya yH 38 5 stage starts inside part gone form found pins;K7 Zq 39 2 stage beat scene found part gone;Qp YW 40,0 2 self box;Zn yL 40,1 1 self;Zk Ow 40,2 2 self beat;Zj wF 40,3 1 self;QK kh 40,4 1 self;Zm wG 40,5 1 self;Zl Ox 40,6 1 self;Zo wH 42 2 'script 'k;yz xf 43 2 'cell 'k;yC xg 44 1 'found;Yy Fh 45 2 'place 'k;zL JX 46 4 'number 'names 'movers 'kind 'some 'used 'j 'at 'twice;Yt Qa 47 5 'number 'names 'movers 'limbs 'bounds 'kind 'more 'beats 'at;zo Fg 48 2 'form_here 'known;yA JW 49 3 'form_here 'names 'movers 'inner 'found 'name 'one;Yu QL 50 3 'names 'known 'most 'some 'total 'name;Yv Kg 51 2 'pool 'many 'found;Qj Jj 52 5 'pool 'kind 'names 'movers 'bounds 'times 'many 'some 'used 'j 'at 'twice;Q1 JR 53 5 'pool 'names 'movers 'limbs 'bounds 'kind 'beats 'limb 'some;Q0 jD 54 3 'script 'many 'bounds 'pool 'place 'limbs 'k 'called 'ended 'names 'movers 'known 'parts 'cell 'own 'form_here 'name;Yq jQ 55 3 'script 'many 'bounds 'head 'limbs 'k 'height 'names 'movers 'known 'parts 'number 'form_here 'name;Qi jU 56 3 'book_here 'names 'heights 'runs 'rows 'j 'now 'words 'some 'behind 'there 'limb;Zp qo 57 2 'form_here 'heights 'rows 'start 'j 'now;yB Js 58 3 'book_here 'name 'heights 'form_here 'rows 'inner 'one 'more;Yx yE 59 1 'book_here 'rows 'heights;Qk YC 60 5 'machine 'beat 'row 'limbs 'last_here 'found;Yr zN 61 1 'machine 'error e;Bz ZY 62 1 'script 'many 'book_here 'beats 'rows 'box 'kept 'machine 'beat 'words"
set_option genInjectivity false in
set_option genSizeOf false in
structure Ad where
 Iy:Addr
 IL:FuncData
 qg:Addr
 qj:FuncData
 zT:Addr
 zW:FuncData
 Qt:Addr
 Qu:FuncData
 A3:Addr
 AS:FuncData
 Ky:Addr
 KI:FuncData
 Xs:Addr
 XH:FuncData
 YE:Addr
 YF:FuncData
 Kx:Addr
 KH:FuncData
 ku:Addr
 kE:FuncData
 Xt:Addr
 XI:FuncData
 Xu:Addr
 XJ:FuncData
 zE:Addr
 zH:FuncData
 Zu:Addr
 ZB:FuncData
 Kz:Addr
 KJ:FuncData
 Xv:Addr
 XL:FuncData
 Zv:Addr
 ZC:FuncData
 Ya:Addr
 Yj:FuncData
 zU:Addr
 zX:FuncData
 Wa:Addr
 Wi:FuncData
 J0:Addr
 qU:FuncData
 qq:Addr
 qt:FuncData
 qf:Addr
 qi:FuncData
 qR:Addr
 qV:FuncData
 KB:Addr
 KL:FuncData
 KA:Addr
 KK:FuncData
 JC:Addr
 qh:FuncData
 Jq:Addr
 Jr:FuncData
 yX:Addr
 Yd:FuncData
 qy:Addr
 qC:FuncData
 qu:Addr
 qx:FuncData
 QC:Addr
 QF:FuncData
 yY:Addr
 Ye:FuncData
 qz:Addr
 qD:FuncData
 qS:Addr
 qW:FuncData
 zD:Addr
 zG:FuncData
 zh:Addr
 zl:FuncData
 zC:Addr
 zF:FuncData
 y8:Addr
 Yh:FuncData
 zf:Addr
 zj:FuncData
 QD:Addr
 QG:FuncData
 ze:Addr
 zi:FuncData
 zg:Addr
 zk:FuncData
 ZO:Addr
 ZS:FuncData
 QV:Addr
 QX:FuncData
 QU:Addr
 QW:FuncData
 yZ:Addr
 Yf:FuncData
 ZN:Addr
 ZR:FuncData
 qA:Addr
 qE:FuncData
 qB:Addr
 qF:FuncData
 y9:Addr
 Yi:FuncData
 ZP:Addr
 ZT:FuncData
 y6:Addr
 Yg:FuncData
 tL:Addr
 sG:FuncData
 jF:Addr
 jE:Addr
 QE:Addr
 wm:Addr
 kB:Addr
 kA:Addr
 Xm:Value
 Qb:Addr
class Txt(K:cp)(mg:Nw)(t:Ad):Prop where
 OB:dZ K mg "_wall" Aw t.Iy t.IL ["k"]
 Qx:dZ K mg "numbers_of" yD t.qg t.qj ["named"]
 Y2:dZ K mg "names_in" kf t.zT t.zW ["form"]
 Zs:dZ K mg "form_with" ZH t.Qt t.Qu ["form","limbs","parts"]
 DY:dZ K mg "made" Bm t.A3 t.AS ["book"]
 xj:dZ K mg "come_to" K5 t.Ky t.KI ["forms","drum"]
 Dw:dZ K mg "drums" wR t.Xs t.XH ["book"]
 xq:dZ K mg "name_of" K6 t.YE t.YF ["number"]
 xi:dZ K mg "book_of" zQ t.Kx t.KH ["box"]
 wI:dZ K mg "inner" wS t.ku t.kE ["book"]
 A0:dZ K mg "ends" Bl t.Xt t.XI ["book"]
 C3:dZ K mg "moved" wT t.Xu t.XJ ["book"]
 kq:dZ K mg "check_side" zM t.zE t.zH ["row","moves","limbs"]
 wd:dZ K mg "length_of" Yz t.Zu t.ZB ["form","inside"]
 xm:dZ K mg "lengths" Z9 t.Kz t.KJ ["book"]
 DZ:dZ K mg "ramp" Bn t.Xv t.XL ["start","goal","beats","j"]
 we:dZ K mg "pieces_in" YB t.Zv t.ZC ["form","inside","sizes"]
 wg:dZ K mg "pieces_of" ZI t.Ya t.Yj ["book","sizes"]
 Y3:dZ K mg "progress" kg t.zU t.zX ["pieces","sizes","gone"]
 Cq:dZ K mg "within" WQ t.Wa t.Wi ["pieces","sizes","gone"]
 Kn:fi K "__init__" "Stage.__init__" qa t.J0 t.qU
 Om:Meth K t.jF "__init__" t.J0
 Kl:Binds K t.qU ["self","book"] []
 W1:fi K "scene" "Stage.scene" ZW t.qq t.qt
 Zf:Meth K t.jF "scene" t.qq
 ZL:Binds K t.qt ["self","beat"] []
 Y5:fi K "heights_at" "Stage.heights_at" Qq t.qf t.qi
 YT:Meth K t.jF "heights_at" t.qf
 Y1:Binds K t.qi ["self","beat"] []
 Ko:fi K "words_at" "Stage.words_at" QZ t.qR t.qV
 kM:Meth K t.jF "words_at" t.qR
 Km:Binds K t.qV ["self","beat"] []
 xt:dZ K mg "pins_of" ya t.KB t.KL ["stage","starts","inside","part","gone"]
 xr:dZ K mg "pins_at" K7 t.KA t.KK ["stage","beat"]
 Y4:fi K "__init__" "Machine.__init__" Qp t.JC t.qh
 Ol:Meth K t.jE "__init__" t.JC
 Y0:Binds K t.qh ["self","box"] []
 yQ:fi K "step" "Machine.step" Zn t.Jq t.Jr
 zu:Meth K t.jE "step" t.Jq
 zS:Binds K t.Jr ["self"] []
 Oq:fi K "jump" "Machine.jump" Zk t.yX t.Yd
 Ou:Meth K t.jE "jump" t.yX
 Oy:Binds K t.Yd ["self","beat"] []
 wY:fi K "beat" "Machine.beat" Zj t.qy t.qC
 yJ:Meth K t.jE "beat" t.qy
 yM:Binds K t.qC ["self"] []
 kr:fi K "heights" "Machine.heights" QK t.qu t.qx
 Y8:Meth K t.jE "heights" t.qu
 ko:Binds K t.qx ["self"] []
 wZ:fi K "pins" "Machine.pins" Zm t.QC t.QF
 yK:Meth K t.jE "pins" t.QC
 yN:Binds K t.QF ["self"] []
 Ot:fi K "kept" "Machine.kept" Zl t.yY t.Ye
 Ov:Meth K t.jE "kept" t.yY
 Oo:Binds K t.Ye ["self"] []
 JY:dZ K mg "_law_cell_at" Zo t.qz t.qD ["_law_script","_law_k"]
 JL:dZ K mg "_law_mixed" yz t.qS t.qW ["_law_cell","_law_k"]
 yd:dZ K mg "_law_whole" yC t.zD t.zG ["_law_found"]
 zd:dZ K mg "_law_word" Yy t.zh t.zl ["_law_place","_law_k"]
 zx:dZ K mg "_law_named" zL t.zC t.zF ["_law_number","_law_names","_law_movers","_law_kind"]
 wb:dZ K mg "_law_form" Yt t.y8 t.Yh ["_law_number","_law_names","_law_movers","_law_limbs","_law_bounds"]
 zc:dZ K mg "_law_long" zo t.zf t.zj ["_law_form_here","_law_known"]
 yc:dZ K mg "_law_moves" yA t.QD t.QG ["_law_form_here","_law_names","_law_movers"]
 yP:dZ K mg "_law_last" Yu t.ze t.zi ["_law_names","_law_known","_law_most"]
 jN:dZ K mg "_law_take" Yv t.zg t.zk ["_law_pool","_law_many"]
 YX:dZ K mg "_law_naming" Qj t.ZO t.ZS ["_law_pool","_law_kind","_law_names","_law_movers","_law_bounds"]
 Z0:dZ K mg "_law_form_told" Q1 t.QV t.QX ["_law_pool","_law_names","_law_movers","_law_limbs","_law_bounds"]
 ZZ:dZ K mg "_law_book_told" Q0 t.QU t.QW ["_law_script","_law_many","_law_bounds"]
 wa:dZ K mg "_law_book" Yq t.yZ t.Yf ["_law_script","_law_many","_law_bounds"]
 Q3:dZ K mg "_law_beside" Qi t.ZN t.ZR ["_law_book_here","_law_names","_law_heights"]
 Qw:dZ K mg "_law_climbed" Zp t.qA t.qE ["_law_form_here","_law_heights"]
 qd:dZ K mg "_law_run" yB t.qB t.qF ["_law_book_here","_law_name","_law_heights"]
 wc:dZ K mg "_law_told" Yx t.y9 t.Yi ["_law_book_here"]
 Q4:dZ K mg "_law_stands" Qk t.ZP t.ZT ["_law_machine","_law_beat","_law_row","_law_limbs","_law_last_here"]
 yO:dZ K mg "_law_done" Yr t.y6 t.Yg ["_law_machine"]
 Bp:dZ K mg "law" Bz t.tL t.sG ["_law_script"]
 jP:lX K t.jF
 Ln:Mk K t.jF t.J0
 Ij:mg "Stage"= ↥t.jF
 Qh:cT K t.jF "limbs"
 Q6:cT K t.jF "first"
 JV:cT K t.jF "forms"
 Jd:cT K t.jF "sizes"
 zJ:cT K t.jF "left"
 qI:cT K t.jF "pieces"
 jL:lX K t.jE
 GD:Mk K t.jE t.JC
 FJ:mg "Machine"= ↥t.jE
 Jw:cT K t.jE "stage"
 qH:cT K t.jE "last"
 Jc:cT K t.jE "now"
 Dx:mg "Done"= ↥t.QE
 XY:mg "PlayError"= ↥t.wm
 Gs:mg "NoPins"= ↥t.kB
 Gr:mg "NoBeat"= ↥t.kA
 Kk:W.excIn K t.QE [.type "ValueError",.type "Exception",.type "BaseException",.type "object"] "ValueError.__new__"= true
 AD:j1 K t.QE
 JT:W.exmOne K (.ref t.QE) (.ref t.wm)⊂true
 qP:W.kitOne K (.ref t.QE) (.ref t.kB)⊂false
 qO:W.kitOne K (.ref t.QE) (.ref t.kA)⊂false
 JG:W.kitOne K (.ref t.QE) (.type "ValueError")⊂true
 QN:W.kitOne K (.ref t.QE) (.ref t.QE)⊂true
 Xz:mg "ValueError"= none
 Bq:mg "abs"= none
 MT:mg "all"= none
 LK:mg "bool"= none
 Wb:mg "dict"= none
 Zy:mg "enumerate"= none
 MU:mg "int"= none
 JN:mg "isinstance"= none
 JO:mg "len"= none
 ZQ:mg "list"= none
 vk:mg "max"= none
 Br:mg "min"= none
 qw:mg "range"= none
 Ft:mg "reversed"= none
 Cw:mg "sorted"= none
 Bs:mg "sum"= none
 yf:mg "tuple"= none
 Bt:mg "zip"= none
 xA:mg "FIGURES"= some t.Xm
 Xi:RelV (.str "abcdefghijklmnopqrstuvwxyz") t.Xm
 XC:mg "MOST_NAMES"= ↥t.Qb
 qZ:rL K t.Qb [("row",.flat (.int 8)),("side",.flat (.int 4))]
instance:Nonempty Ad:=⟨by constructor<;>rwa[default]⟩
structure Bd where(P:Program)(w:World)(K:cp)(mg:Nw)(base:Heap)(t:Ad)
def gB(b:Bd):Prop:=Txt b.K b.mg b.t->dP b.P b.w b.K b.mg b.base pA 39 b.t.tL b.t.sG ["_law_script"] (Pr.gY b.K)
instance:Nonempty Bd:=⟨#[PySem.Challenge.pw_camplay_k38_stepped,#[λq q=>0,{strHash:=λq=>0,shareClass:=λq=>0,mergeTok:=id,idOf:=λq=>0,idOfShared:=λq q=>0,followText:=λq=>false,idOfImm:=λq=>0}],[],λq=>none,{},Classical.choice inferInstance]⟩
@[irreducible]noncomputable def cB:Bd:=Classical.epsilon λb=>¬gB b
def P:=cB.P
def w:=cB.w
def K:=cB.K
def mg:=cB.mg
def base:=cB.base
def t:=cB.t
section
variable[T:Txt K mg t]
def X8:1<*t.Qt t.Qu ["form","limbs","parts"] (fA):=by
 specialize T.Zs.F.ok Fi;let⟨a,l,p,g,G,rfl,f,v,q⟩:=h;erw[_,#v["B¦Dȗ3,LŴN$¢#,¬Ƶ%v)­J¦Â,,LŴN$¢',HÃƷ,b93,ċØĹ/ȡƮmƺã,ƮmƺLŴN$¢#%%"],?_]
 rotate_right 300
 have I:(200:Nat)<sizeLine:=by decide
 cases g with
 | oj r vs=>
  cases v;cases r with
  | false=>
   have c:H a⊂(.tup (.str "hold"::vs)):=f;exists dY (cw.of c) (iw) ?_;exists bZ ?_;exists dY (cw.of c) (iw) ?_;exists bZ ?_;exists dY (cw.of c) (iw) ?_;exists#[uc,?_];sleep 1;erw[p1,_,rfl,.inr (cw.of t1),rfl,rfl,_,rfl,?_];erw[bZ ?_];ac_nf;rwa[q a H1 s1 (s1 _ _ c)]
  | true=>
   have c:H a⊂(.tup (.str "ring"::vs)):=f;exists dY (cw.of c) (iw) ?_;exists bZ ?_;exists dY (cw.of c) (iw) ?_;exists bZ ?_;exists dY (cw.of c) (iw) ?_;exists#[uc,?_];sleep 1;erw[p1,_,rfl,.inr (cw.of t1),rfl,rfl,_,rfl,?_];erw[bZ ?_];ac_nf;rwa[q a H1 s1 (s1 _ _ c)]
 | rise x h n=>
  have c:H a⊂(.tup [.str "raise",x,h,n]):=f;let⟨y,B,rfl⟩:=v;exists cg c ?_;exists cI ?_;exists cg c ?_;exists cg c ?_;erw[XQ B ?_];exists#[uc,?_];sleep 1;exists#[a,_,rfl,cw.of (s1 _ _ c),(by show¬(HT.dD 4 0 (some 2)=0/\HT.dD 4 4 none=4);decide),?_];sleep 2;erw[p1,p2,_,_,rfl,rfl,cw.of (s2 _ _ t1),cw.of t2,(λz=>by cases z),?_,?_,?_]
  .show 2+2<=sizeLine;lia
  .intro z;cases z
  intro Z;sleep 3;rwa[q p3 H3 (s1.trans (s2.trans s3)) t3]
 | again k x=>
  have c:H a⊂(.tup [.str "again",k,x]):=f;let⟨y,B,rfl⟩:=v;exists cg c ?_;exists bZ ?_;exists cg c ?_;exists cI ?_;exists cg c ?_;exists cg c ?_;exists cg c ?_;erw[XQ B ?_];exists#[ub,?_];sleep 1;rwa[q p1 H1 s1 t1]
 | many s xs=>
  let⟨j,D,C,J,rfl⟩:=v;cases s with
  | false=>
   let⟨b,c,m⟩:=f;have c:H a⊂(.tup [.str "row",.ref b]):=c;exists cg c ?_;exists bZ ?_;exists cg c ?_;exists bZ ?_;exists cg c ?_;exists#[uc,?_];sleep 1;erw[p1,_,rfl,.inr (cw.of t1),rfl,rfl,_,rfl,?_];erw[cI ?_];exists cg (s1 _ _ c) ?_;exists cg (s1 _ _ c) ?_;erw[b,rfl,#[_,cw.of (s1 _ _ m)],?_];erw[Z1 (xs:=xs) (λi e d=>e=j.take i/\H1=d) #[rfl,rfl] ?_ ?_ ?_]
   .rintro i e d _ ⟨rfl,rfl⟩;rwa[cw.of (s1 _ _ m)]
   .rintro i x e d o ⟨rfl,rfl⟩;have F:=(vx.mp o).1;have u:j[i]?⊂j[i]:=vz ⋯;erw[Jo (S':=[none,some _]) rfl ?_];exists dt ?_;exists XQ ((C i x _ o u).same s1) ?_;erw[by rw[vi];lia,?_,rfl];rw[take_snoc u]
   rintro e d ⟨rfl,rfl⟩;rw[<-D,v5];erw[⋯,?_];sleep 2;exists#[p2,_,rfl,.inl #[bV.of t2,?_]];sleep 3;exists#[uc,?_];sleep 4;rwa[q p4 H4 (s1.trans (s2.trans (s3.trans s4))) #[p3,t4,s4 _ _ t3]]
  | true=>
   let⟨b,c,m⟩:=f;have c:H a⊂(.tup [.str "side",.ref b]):=c;exists cg c ?_;exists bZ ?_;exists cg c ?_;exists bZ ?_;exists cg c ?_;exists#[uc,?_];sleep 1;erw[p1,_,rfl,.inr (cw.of t1),rfl,rfl,_,rfl,?_];erw[cI ?_];exists cg (s1 _ _ c) ?_;exists cg (s1 _ _ c) ?_;erw[b,rfl,#[_,cw.of (s1 _ _ m)],?_];erw[Z1 (xs:=xs) (λi e d=>e=j.take i/\H1=d) #[rfl,rfl] ?_ ?_ ?_]
   .rintro i e d _ ⟨rfl,rfl⟩;rwa[cw.of (s1 _ _ m)]
   .rintro i x e d o ⟨rfl,rfl⟩;have F:=(vx.mp o).1;have u:j[i]?⊂j[i]:=vz ⋯;erw[Jo (S':=[none,some _]) rfl ?_];exists dt ?_;exists XQ ((C i x _ o u).same s1) ?_;erw[by rw[vi];lia,?_,rfl];rw[take_snoc u]
   rintro e d ⟨rfl,rfl⟩;rw[<-D,v5];erw[⋯,?_];sleep 2;exists#[p2,_,rfl,.inl #[bV.of t2,?_]];sleep 3;exists#[uc,?_];sleep 4;rwa[q p4 H4 (s1.trans (s2.trans (s3.trans s4))) #[p3,t4,s4 _ _ t3]]
def xc:1<*t.qg t.qj ["named"] (cS):=by
 specialize T.Qx.F.ok Q9;let⟨l,M,xs,rfl,B,U,R,X,D,q⟩:=h;erw[_,#v["£:Ŷäĺ0Ļ?%Y/Ŷ1Ŷà#¸'#"],?_]
 rotate_right 103
 ac_nf;walk_at"f d hd H1 s1 t1";exists#[l,_,rfl,bV.of (s1 _ _ B),?_];erw[kG (xs:=M.map V.ref) (λi p c=>fW λ(m n:N3)=>dG (p=[↥l,↥d,m,n]) (bU H c/\c d⊂(.dK (fZ (xs.take i))))) #[_,_,rfl,s1,t1] ?_ ?_ ?_]
 .rintro i p c _ ⟨m,n,rfl,g,f⟩;rwa[bV.of (g _ _ B)]
 .rintro i v p c P L G ⟨m,n,rfl,g,f⟩ J Y;rw[vv]at G;let⟨a,x,rfl⟩:=vg.mp G;have Z:=(vx.mp x).1;have C:xs[i]?⊂xs[i]:=vz ⋯;let⟨r,O⟩:=R i a _ x C;have I:=g.trans J;have o:⇑(xs.take i)=i:=by rw[vi];lia
  erw[JK (cw.of Y) ?_];exists cg (I _ _ O) ?_;erw[d,_,rfl,fV.k (k:=Sum.inr xs[i]) (J _ _ f) (by rw[HH,o];lia),?_];have S:(Sum.inr xs[i]:Key)∉(fZ (xs.take i)).map (·.1):=λz=>by
   rw[Xd]at z;let⟨y,W,e⟩:=vK.mp z;have N:y=xs[i]:=Sum.inr.inj e;subst N;let⟨j,F,e⟩:=mem_iff_getElem.mp W;rw[getElem_take]at e;rw[o]at F;rwa[uf e (pairwise_iff_getElem.mp X j i ⋯ ⋯ F)]
  erw[_,_,rfl,λb u h=>(jh (je h hd)).trans (I _ _ h),?_];rw[jA,Z8 S,take_snoc C,GB,o]
 rintro S' c ⟨m,n,rfl,g,f⟩;rw[vt,U,v5]at f;ac_nf;rwa[q d c g hd f]
def Ly:2<*t.A3 t.AS ["book"] (lH):=by
 specialize T.DY.F.ok YS;let⟨b,pl,pp,a1,a2,l,f,rfl,B,W,n1,q⟩:=h;erw[_,#v["Û:ĜVļĽ,/Ĝä£1Ĝȫ2,Y5Ĝ.Ĝà'*Ȭn&_ĊźŻ('űȮ&3ȓȱ$&p'i,Z"],?_]
 rotate_right 105
 have a3:=W.nF;have pa:=B.pa.1;have la:=B.la.1;have l8:=W.l8;have R:⇑(bQ f)=⇑f:=vt _;exists cg B.t ?_;exists#[pl,a1,bQ l,rfl,B.l,by rw[bQ,vt];rwa[la],λi a x ea ex=>?_,W.ln,by rw[bQ,vt];lia,λd H1 U hd ed=>?_]
 .unfold bQ at ex;rw[vv]at ex;let⟨p,ep,rfl⟩:=vg.mp ex;rwa[_,B.la.2 i a p ea ep]
 ac_nf;walk_at"f d2 hd2 H2 s2 t2";exists Ip ?_;walk_at"f d3 hd3 H3 s3 t3";have n3:=none_of s2 hd3;have L:=s2.trans s3;have I:d2≠d3:=je t2 hd3;exists cg (L _ _ (U _ _ B.t)) ?_;erw[pp,rfl,#[_,bV.of (L _ _ (U _ _ B.p))],?_];refine JD (xs:=a2.map V.ref) (λi σ v=>iR λ(Z o5:N3) (xs:List NE)=>fq (σ=[↥b,↥d,↥d2,↥d3,Z,o5]) (bU H1 v) (v d2⊂(.dK (gf ((bQ f).take i) (cj (bQ l) (bQ f) (f.take i)).2))) (v d3⊂(lY P w d3 xs)/\hL v xs (cj (bQ l) (bQ f) (f.take i)).1))
  #[_,_,[],rfl,L,s3 _ _ t2,t3,#[rfl,λi d h=>by simp[cj]at h]] ?_ ?_ ?_
 .rintro i σ v _ ⟨Z,o5,xs,rfl,C,_⟩;rwa[bV.of (C _ _ (U _ _ B.p))]
 .rintro i x σ v hx ⟨Z,o5,xs,rfl,C,m,D,N⟩;let⟨a,p,rfl,Y,fb,G,hf⟩:=B.pa.cD hx;have hi:=(vx.mp Y).1;have S:=U.trans C;have M:=wv (bQ l) (bQ f) i (f.take i) (by rw[vi];lia);have mp:=Ic (H:=v) W Y M.ln (C _ _ ed) m;have F:=N.1;have lk:=M.lk;have O:(bQ f)[i]?⊂p.1:=by unfold bQ;rw[vv,Y];rfl
  have hk:(Sum.inr p.1:Key)∉(gf ((bQ f).take i) (cj (bQ l) (bQ f) (f.take i)).2).map (·.1):=λz=>by
   rw[Xe (by rw[vi,M.ln];lia)]at z;let⟨y,hy,e⟩:=vK.mp z;have e':y=p.1:=Sum.inr.inj e;subst e';let⟨j,hj,e⟩:=mem_iff_getElem.mp hy;rw[vi]at hj;rw[getElem_take]at e;let⟨h2,m⟩:=vx.mp O;rwa[uf (e.trans m.symm) (pairwise_iff_getElem.mp W.pn j i ⋯ h2 ⋯)]
  have nl:⇑(gf ((bQ f).take i) (cj (bQ l) (bQ f) (f.take i)).2)<sizeLine:=by
   rw[HI (by rw[vi,M.ln];lia),vi];lia
  have et:(bQ f).take (i+1)=(bQ f).take i++[p.1]:=take_snoc O;have em:cj (bQ l) (bQ f) (f.take (i+1))=df (bQ l) (bQ f) (cj (bQ l) (bQ f) (f.take i)) p:=by rw[take_snoc Y,qG]
  rw[et,em];have ll:⇑((bQ f).take i)=(cj (bQ l) (bQ f) (f.take i)).2.length:=by rw[vi,M.ln];lia
  generalize cj (bQ l) (bQ f) (f.take i)=st at *;erw[JK (cw.of (S _ _ G)) ?_];exists Mh ?_;exists#[d3,xs,rfl,D,?_];exists#[fb,d,d2,_,_,rfl,Wr.mp (cf.same S hf),mp,λc H4 o gc=>?_];exists#[d3,xs,rfl,o _ _ D,?_];ac_nf;have r:=N.dF λb xs h=>o b (.tup xs) h
  let⟨f1,f2⟩:=r.found (d:=mI (bQ l) (bQ f) st.2 p.2) M.nd;erw[xs,c,_,_,rfl,o _ _ D,r.nat,Eo gc,⋯,λp' a0=>?_,λhn=>?_]
  .let⟨hm,hv⟩:=f1 p' a0;rw[hv];exists#[d2,_,rfl,fV.k (k:=Sum.inr p.1) (o _ _ m) nl,?_];unfold df;dsimp only;rw[vd hm];erw[_,_,xs,rfl,λc u h=>(jh (je h hd2)).trans ((C.trans o) _ _ h),?_,(jh I.symm).trans (o _ _ D),r.dF λb xs h=>(jh (Jz h (o _ _ m) (λz=>by cases z))).trans h];rw[jA,Z8 hk,Xf ll];rfl
  .have hm:=f2 hn;exists#[d2,_,rfl,fV.k (k:=Sum.inr p.1) ((jh I).trans (o _ _ m)) nl,?_];unfold df;dsimp only;rw[vc hm];have tk:∀b ys,H4 b⊂.tup ys->upd (upd H4 d3 (lY P w d3 (xs++[(kD (mI (bQ l) (bQ f) st.2 p.2),c,.int (⇑xs:Nat))]))) d2 (.dK (putK (gf ((bQ f).take i) st.2) (Sum.inr p.1) (.int (⇑xs:Nat)))) b⊂(.tup ys):=λb ys h=>(jh (Jz h (o _ _ m) (λz=>by cases z))).trans ((jh (Jz h (o _ _ D) (λz=>by cases z))).trans h)
   erw[_,_,xs++[(kD (mI (bQ l) (bQ f) st.2 p.2),c,.int (⇑xs:Nat))],rfl,λc u h=>(jh (je h hd2)).trans ((jh (je h n3)).trans ((C.trans o) _ _ h)),?_,(jh I.symm).trans jA,?_]
   .rw[jA,Z8 hk,Xf ll,F];rfl
   .rw[F];rw[F]at tk;rwa[(r.dF tk).snoc (lJ.dF tk gc)]
 rintro S' v ⟨Z,o5,xs,rfl,C,m,D,N⟩;rw[vt,pa,v5]at m N;rw[<-R,v5]at m;have S:=U.trans C;exists#[d3,xs,rfl,D,?_];walk_at"f l5 hl5 H5 s5 t5";ac_nf;have J:=S.trans s5;let⟨a,ha,fb,G,hf⟩:=B.pa.get (i:=⇑f-1) (x:=f[⇑f-1]) (vz ⋯);erw[cg (J _ _ B.t) ?_];exists ck (bV.of (J _ _ B.p)) (D0 (n:=⇑f) n1 (by rw[vt];rwa[pa]) (by rw[vv,ha];rfl)) ?_;exists cg (J _ _ G) ?_;have M:=wv (bQ l) (bQ f) ⇑f f rfl;have g:cY H5 d2 (.str f[⇑f-1].1) (some (vN ((cj (bQ l) (bQ f) f).2.getD (⇑f-1) 0))):=by
  have g:=cY.k (k:=Sum.inr f[⇑f-1].1) (s5 _ _ m);rw[Cp (j:=⇑f-1) (R.trans M.ln.symm) W.pn (by unfold bQ;rw[vv,vz ⋯];rfl)]at g;rwa[g]
 erw[d2,_,rfl,g,?_];exists#[uc,?_];sleep 6;have X:=s5.trans s6;rwa[q p6 l5 (xs.map λq=>q.2.1) H6 (S.trans X) t6 (by rw[v6];rwa[s6 _ _ t5]) (j0.of (N.dF λb xs h=>X _ _ h))]
def Ff:1<*t.zT t.zW ["form"] (fL):=by
 specialize T.Y2.F.ok Fz;let⟨a,g,rfl,d,q⟩:=h;erw[_,#v["BHÃȵ,Ŀĝŀȶ0ȷ$,CŽÔ¬Ƶ%v)­Äŵ"],?_]
 rotate_right 100
 have f:(200:Nat)<sizeLine:=by decide
 cases g with
 | oj r vs=>
  cases r with
  | false=>
   have c:H a⊂(.tup (.str "hold"::vs)):=d;exists dY (cw.of c) (iw) ?_;exists#[_,_,_,rfl,rfl,T.qZ,?_];exists bZ ?_;exists dY (cw.of c) (iw) ?_;exists bZ ?_;exists#[va _,?_];walk_at"f b hb H1 s1 t1";rwa[q b H1 s1 t1]
  | true=>
   have c:H a⊂(.tup (.str "ring"::vs)):=d;exists dY (cw.of c) (iw) ?_;exists#[_,_,_,rfl,rfl,T.qZ,?_];exists bZ ?_;exists dY (cw.of c) (iw) ?_;exists bZ ?_;exists#[va _,?_];walk_at"f b hb H1 s1 t1";rwa[q b H1 s1 t1]
 | rise x h n=>
  have c:H a⊂(.tup [.str "raise",x,h,n]):=d;exists cg c ?_;exists#[_,_,_,rfl,rfl,T.qZ,?_];exists bZ ?_;exists cg c ?_;exists bZ ?_;exists#[va _,?_];walk_at"f b hb H1 s1 t1";rwa[q b H1 s1 t1]
 | again k x=>
  have c:H a⊂(.tup [.str "again",k,x]):=d;exists cg c ?_;exists#[_,_,_,rfl,rfl,T.qZ,?_];exists bZ ?_;exists cg c ?_;exists cI ?_;exists#[a,_,rfl,cw.of c,(by show¬(HT.dD 3 0 (some 2)=0/\HT.dD 3 3 none=3);decide),?_];walk_at"f b hb H1 s1 t1";rwa[q b H1 s1 t1]
 | many s xs=>
  let⟨b,c,e⟩:=d;cases s with
  | false=>
   have c:H a⊂(.tup [.str "row",.ref b]):=c;exists cg c ?_;exists#[_,_,_,rfl,rfl,T.qZ,?_];exists cI ?_;exists cg c ?_;rwa[q b H (bU.refl _) e]
  | true=>
   have c:H a⊂(.tup [.str "side",.ref b]):=c;exists cg c ?_;exists#[_,_,_,rfl,rfl,T.qZ,?_];exists cI ?_;exists cg c ?_;rwa[q b H (bU.refl _) e]
def FL:2<*t.Ky t.KI ["forms","drum"] (lG):=by
 specialize T.xj.F.ok yF;let⟨f,a0,o,e,rfl,ef,dr,D,tl,a2,q⟩:=h;erw[_,#v["£/žȸȹ#åȺ$$Ȼ7ȼ0Łµ#ZZ®1žlȽȾ¢&'4¥ãVƽƾ=%&5žà'*å`ȿ$ƿǀ'"],?_]
 rotate_right 203
 have fl:=dr.1;exists Mg λd hd=>?_
 exists#[jA,[(iK e,.bl true)],rfl,(by show 1<=15;decide),?_];rw[LC];have O:bU H (upd H d (.dK (cG [] [(iK e,.bl true)]))):=wU hd rfl;have e0:upd H d (.dK (cG [] [(iK e,.bl true)])) d⊂(.dK [(iK e,.bl true)]):=jA;generalize upd H d (.dK (cG [] [(iK e,.bl true)]))=H0 at O e0|-;exists#[(e:Int),-1,rfl,#[⋯,⋯,⋯,⋯],?_];have en:((e:Int) - -1).toNat=e+1:=⋯
 rw[en];refine Hz (λi r R=>lK λ(o3 p:N3) (m:List (Key×V)) (S:L6)=>fq (r=[↥f,some (vN e),↥d,o3,p]) (bU H R) (R d⊂.dK m) (KySet m S/\jk o e i S))
  #[_,_,_,[e],rfl,O,e0,#[rfl,by simp],#[λx v=>by rw[vo.mp v];rwa[.top],vo.mpr rfl,λy Z hi=>uf hi (by rw[vo.mp Z];lia)]] ?_ ?_
 .rintro i r R hi ⟨o3,p,m,S,rfl,F,J,C,G⟩;obtain⟨y,Z⟩:∃y:Nat,(e:Int)-(i:Int)=(y:Int):=#[e-i,⋯]
  have yi:y+i=e:=⋯
  rw[Z];have yk:o[y]?⊂o[y]:=vz ⋯;let⟨fa,Y,X⟩:=dr.get yk;ac_nf;have g:=cY.k (k:=iK y) J;erw[d,_,rfl,g,?_];rw[C.mem];erw[_,rfl,?_];erw[cA (λW=>?_) (λW=>?_)]
  .exists ck (bV.of (F _ _ ef)) (jS (j:=y) (by rw[vv,Y];rfl)) ?_;exists#[fa,_,rfl,X.same F,λb H1 s1 U=>?_];rw[MZ]at U;have eg:o.getD y (.hold 0)=o[y]:=by rw[vy,yk];rfl
   have cy:=G.yes D W yi;rw[eg]at cy;have n8:=D.l8 _ (getElem_mem ⋯:o[y]∈o);erw[b,rfl,#[_,cw.of U],?_];refine Dg (xs:=o[y].ns.map vN) (λj r L=>fW λ(p:N3) (a:List (Key×V))=>mu (r=[↥f,some (vN e),↥d,some (.int (y:Nat)),p]) (∀c u,c≠d->H1 c⊂u->L c⊂u) (L d⊂.dK a/\KySet a (lz S (o[y].ns.take j))))
    #[_,m,rfl,λc u _ h=>h,s1 _ _ J,C] ?_ ?_ ?_
   .rintro j r L _ ⟨p,a,rfl,N,I,B⟩;rwa[cw.of (N _ _ (Jz U (s1 _ _ J) (λz=>by cases z)) U)]
   .rintro j x r L v ⟨p,a,rfl,N,I,B⟩;let⟨z,M,rfl,a1⟩:=tJ v;have hj:=(vx.mp M).1;have kl:=B.len;have sl:⇑(lz S (o[y].ns.take j))<=e+1:=XZ B.2 λx v=>by
     rcases Zg.mp v with h | h
     .have:=(G.rc x h).le D;lia
     .have:=D.lt y _ yk x (mem_of_mem_take h);lia
    exists#[d,_,rfl,fV.k (k:=iK z) I ⋯,?_];erw[_,_,rfl,λc u n h=>(jh n).trans (N _ _ n h),jA,?_];rw[take_snoc M,GF];rwa[B.put z _]
   rintro r L ⟨p,a,rfl,N,I,B⟩;rw[vt,v5]at B;rwa[_,_,a,_,rfl,λc u h=>N _ _ (je h hd) (s1 _ _ (F _ _ h)),I,B,cy]
  .ac_nf;rwa[_,_,m,S,rfl,F,J,C,G.no W yi]
 rintro r R ⟨o3,p,m,S,rfl,F,J,C,G⟩;have sl:⇑S<=e+1:=XZ C.2 λx v=>by have:=(G.rc x v).le D;lia
 exists#[d,m,S.map (λn:Nat=>(n:Int)),rfl,J,by rw[C.1,v6];rfl,by rw[vt];lia,λl ms hl pm od=>?_];let⟨ns,e1,I,e3⟩:=FA pm od C.2;rw[e1];rwa[q l ns _ (F.trans (wU hl rfl)) (none_of F hl) jA I λx=>(e3 x).trans G.all]
def HJ:3<*t.Xs t.XH ["book"] (iE):=by
 specialize T.Dw.F.ok zr;let⟨b,pl,pp,a5,a6,r,D,rfl,B,W,n1,q⟩:=h;erw[_,#v["U:Å»ɀɁj/ÅS#U1ÅGɄɅ'S#j5ÅɆ$0ľ0Ł?A,Jj.ÅäÎĺ0Ļ?&Y<ÅEÅà(-+3Ć,ĂæĚ5./ɉĞPcǁǂěǃǄæ2&ĞPcǁǂěǃǄæĊźŻLłN$&%'"],?_]
 rotate_right 107
 have O:=XV W n1;have a4:=O.rR;have tp:=O.tp;have la:=B.la.1;have l8:=W.l8;exists#[b,pl,pp,a5,a6,r,D,rfl,B,W,n1,λtt f a0 H1 s1 et ef dr=>?_];exists cg et ?_;exists cg et ?_;exists#[f,a0,cR r D,hY r D,rfl,ef,dr,O.dw,tp,a4,λl2 ms H2 s2 a8 N m1 m2=>?_];have Z:Kept r D ms:=#[m1,m2]
 have a9:=Z.len O;have nd:=By m1;have J:=s1.trans s2;exists M5 ?_;exists cg (J _ _ B.t) ?_;erw[_,_,rfl,.inl #[_,bV.of (J _ _ B.l),rfl],?_];rw[vt,la];exists#[⇑r,rfl,⋯,?_];sleep 3;ac_nf;walk_at"f d4 hd4 H4 s4 t4";exists#[l2,_,rfl,bV.of (s4 _ _ (s3 _ _ N)),?_];erw[kG (xs:=ms.map vN) (λi σ F=>fW λ(o6 o7:N3)=>dG (σ=[↥b,↥tt,↥f,↥l2,↥p3,↥d4,o6,o7]) (bU H3 F/\F d4⊂(.dK (hV (ms.take i))))) #[_,_,rfl,s4,t4] ?_ ?_ ?_]
 .rintro i σ F _ ⟨o6,o7,rfl,R,S⟩;rwa[bV.of (R _ _ (s3 _ _ N))]
 .rintro i v σ F T' a7 hx ⟨o6,o7,rfl,R,S⟩ sP tP;let⟨m,C,rfl,I⟩:=tJ hx;have hi:=(vx.mp C).1;have tl:⇑(ms.take i)=i:=by rw[vi];lia
  erw[JK (cw.of tP) ?_];exists#[d4,_,rfl,fV.k (k:=iK m) (sP _ _ S) (by rw[HF,tl];lia),?_];have hk:iK m∉(hV (ms.take i)).map (·.1):=λz=>by
   rw[Xc]at z;let⟨y,hy,e⟩:=vK.mp z;have e':=AV e;subst e';let⟨j,hj,e⟩:=mem_iff_getElem.mp hy;rw[tl]at hj;rw[getElem_take]at e;let⟨h2,N⟩:=vx.mp C;rwa[uf (e.trans N.symm) (pairwise_iff_getElem.mp nd j i ⋯ h2 hj)]
  erw[_,_,rfl,λc u h=>(jh (je h hd4)).trans (sP _ _ (R _ _ h)),?_];rw[jA,Z8 hk,take_snoc C,GA,tl];rfl
 rintro S' H5 ⟨o6,o7,rfl,R,S⟩;rw[vt,v5]at S;have Y:=s3.trans R;have G:=J.trans Y;exists cg (G _ _ B.t) ?_;erw[pl,_,rfl,.inl (bV.of (G _ _ B.l)),?_];sleep 6;have L:=Y.trans s6;have X:=G.trans s6;exists#[l2,rfl,#[_,bV.of (L _ _ N)],?_];erw[Jn (xs:=ms.map vN) (λi ys F=>dH λ(o:L7)=>dG (ys=o.map V.ref) (bU H6 F/\j0 F o ((du (cR r D) ms).take i))) #[[],rfl,bU.refl _,.nil] ?_ ?_ ?_]
 .rintro i ys F _ ⟨o,rfl,g,p⟩;rwa[bV.of (g _ _ (L _ _ N))]
 .rintro i x ys F hx ⟨o,rfl,g,p⟩;let⟨m,C,rfl,I⟩:=tJ hx;have hi:=(vx.mp C).1;have mt:=Z.lt O I;have mk:(cR r D)[m]?⊂(cR r D)[m]:=vz ⋯;have eg:(cR r D).getD m (.hold 0)=(cR r D)[m]:=by rw[vy,mk];rfl
  let⟨fa,a2,a1⟩:=dr.get mk;have sH:=L.trans g;have U:=getElem_mem ⋯ (l:=cR r D) (n:=m);have gm:=MJ (H:=F) (l:=p3) (an:=d4) (n:=⇑r) (ms:=ms) (d:=(cR r D)[m]) (g _ _ (s6 _ _ (R _ _ t3))) (g _ _ (s6 _ _ S)) nd (O.lm _ U) (λj hj=>Z.sub I (by rw[eg];rwa[hj])) (O.dw.l8 _ U);erw[Jo (S':=[none,some _,some _,some _]) rfl ?_];exists dt ?_;exists ck (bV.of (sH _ _ (s2 _ _ ef))) (jS (j:=m) (by rw[vv,a2];rfl)) ?_;exists#[fa,p3,d4,_,_,rfl,(a1.same s2).same sH,gm,λc H7 s7 gc=>?_];have dl:=p.1;rw[vi]at dl;erw[by rw[vt];lia,o++[c],by rw[vj];rfl,g.trans s7,?_];rw[take_snoc (x:=r8 (λn=>ms.idxOf n) (cR r D)[m]) (by unfold du;rw[vv,C,<-eg];rfl)];rwa[bX.snoc (bX.mono p λa d h=>h.same s7) gc]
 rintro ys F ⟨o,rfl,g,p⟩;have kl:⇑(du (cR r D) ms)=⇑(ms.map vN):=by unfold du;rw[vt,vt]
 rw[<-kl,v5]at p;have dl:=p.1;rw[kl,vt]at dl;erw[by rw[vt];lia,?_];sleep 8;exists#[uc,?_];sleep 9;have aa:=g.trans s8;have M:=s8.trans s9;rwa[q p9 p6 p8 o ms H9 (X.trans (g.trans M)) t9 (M _ _ (g _ _ t6)) (s9 _ _ t8) (none_of G hp6) (none_of (X.trans g) hp8) (je (g _ _ t6) hp8) (bX.mono p λa d h=>h.same M) Z]
def FO:1<*t.YE t.YF ["number"] (CW):=by
 erw[T.xq.F.ok yG (λl H Q E h=>?_) (λf A e s H l Q E p h=>?_)]
 .let⟨N,rfl,k,q⟩:=h;rfl
 let⟨N,rfl,k,q⟩:=h;erw[_,#v["ĵ:ſLŃǅ0ǆǇ¤%ǉŷÕǊ%6«ſ·%4>:ſDńLŃǅ0ǆǇ¤%##"],?_]
 rotate_right 101
 have r:(200:Nat)<sizeLine:=by decide
 exists#[_,_,_,rfl,rfl,∅,Eh ⋯ ⋯,?_];exists#[λn S' d=>fW λ(a:Nat) (b:Str)=>fq (S'=[some (.int (a:Nat)),some (.str b)]) (d=H) (n=a) ((a<26->b=hZ N)/\(26<=a->a=N/\b=⟨#[97+N%26]⟩)),#[N,N,_,rfl,rfl,rfl,λh=>?_,λh=>#[rfl,?_]],?_]
 .unfold hZ;rw[vd h,show((N:Int)%26).toNat=N by lia]
 .rw[show((N:Int)%26).toNat=N%26 by lia]
 rintro n S' d ⟨a,b,rfl,rfl,m,g,j⟩;exists cA (λc=>?_) (λc=>?_)
 .let⟨o,rfl⟩:=j ⋯;erw[_,λS' d h=>h,?_];exists#[_,_,_,rfl,rfl,∅,Eh ⋯ ⋯,?_];exists#[_,_,rfl,rfl,(by show 1+1<=sizeLine;lia),?_];erw[a/26,⋯,a/26,_,rfl,rfl,rfl,λh=>?_,λh=>uf h ⋯];unfold hZ;rw[vc ⋯,show((a:Int)/26%26).toNat=N/26 by lia];rfl
 .rw[g ⋯];ac_nf;rwa[q]
def FK:2<*t.Kx t.KH ["box"] (gX):=by
 specialize T.xi.F.ok kj;let⟨bx,l,f,D,N,ls,y,rfl,L,S,la,R,dr,O,q⟩:=h;erw[_,#v["Jj:ǋČçƀ¯Ɓ¹2,¹¹%j/ǋĂæ¯Ɓ¹sA,¹»Ɏɏ3Ć,Čçmd:/Ɓ¹Ƃ0ƃ_',¹¹3%{źŻ#'&"],?_]
 rotate_right 102
 have a2:=O.rR;have l8:=O.l8;have a0:=la.1;have dl:=dr.1;have F:⇑(bQ ls)=⇑ls:=vt _;exists cg L ?_;erw[l,rfl,#[_,bV.of S],?_];erw[Jn (xs:=D.map V.ref) (λi m e=>m=((bQ ls).take i).map V.str/\H=e) #[rfl,rfl] ?_ ?_ ?_]
 .rintro i m e _ ⟨rfl,rfl⟩;rwa[bV.of S]
 .rintro i x m e hx ⟨rfl,rfl⟩;let⟨a,p,rfl,hp,W⟩:=la.cD hx;have Y:=(vx.mp hp).1;erw[Jo (S':=[none,none]) rfl ?_];erw[JK (cw.of W) ?_];exists dt ?_;exists#[by rw[vt,vi];lia,?_,rfl];rw[take_snoc (x:=p.1) (by unfold bQ;rw[vv,hp];rfl),vj];rfl
 rintro m e ⟨rfl,rfl⟩;have U:⇑(D.map V.ref)=⇑(bQ ls):=by rw[vt,F];rwa[a0]
 rw[U,v5];erw[by rw[vt,F];lia,?_];sleep 1;exists cg (s1 _ _ L) ?_;erw[_,_,rfl,.inl #[_,bV.of (s1 _ _ R),rfl],?_];rw[vt,dl];exists#[_,rfl,⋯,⋯,?_];erw[yg (λi m e=>m=(List.range i).map (λk=>V.str (hZ k))/\H1=e) #[rfl,rfl] ?_ ?_]
 .rintro i m e Y ⟨rfl,rfl⟩;rw[show(0:Int)+(i:Nat)=(i:Nat)from ux _];erw[Jo (S':=[none]) rfl ?_];exists dt ?_;exists#[i,rfl,⋯,?_];erw[by rw[vt,length_range];lia,?_,rfl];rw[range_succ,vj];rfl
 rintro m e ⟨rfl,rfl⟩;rw[show((⇑y:Nat):Int).toNat=⇑y from Int.toNat_natCast _];erw[by rw[vt,length_range];lia,?_];sleep 2;have o:=s1.trans s2;exists cg (o _ _ L) ?_;erw[l,_,rfl,.inl (bV.of (o _ _ S)),?_];sleep 3;have g:=o.trans s3;exists cg (g _ _ L) ?_;ac_nf;have z:=s3 _ _ t2;erw[p2,f,_,_,rfl,bV.of z,bV.of (g _ _ R),?_];erw[CA (xs:=(List.range ⇑y).map λk=>V.str (hZ k)) (zs:=N.map V.ref) (λi m e=>dH λ(b:L7)=>dG (m=b.map V.ref) (bU H3 e/\bX (cU e) b ((fI ls y).take i))) (by rw[vt,vt,length_range];rwa[dl.symm]) #[[],rfl,bU.refl _,.nil] ?_ ?_ ?_]
 .rintro i m e _ ⟨b,rfl,r,_⟩;rwa[bV.of (r _ _ z),bV.of (r _ _ (g _ _ R))]
 .rintro i u v m e T' M hu hv ⟨b,rfl,r,B⟩ sP tP;rw[vv]at hu;let⟨k,Z,rfl⟩:=vg.mp hu;have Y:i<⇑y:=by
   have:=(vx.mp Z).1;rw[length_range]at this;rwa[this]
  rw[List.getElem?_range Y]at Z;cases Z;let⟨a,d,rfl,X,gd⟩:=dr.cD hv;have sA:=r.trans sP;have a1:=g.trans sA;have C:=vm X;have pl:=B.1;rw[vi,Zz]at pl;have gm:=LL (H:=M) (l:=p1) (p:=p2) (ls:=ls) (d:=d) (n:=⇑y) (sA _ _ (s3 _ _ (s2 _ _ t1))) (sA _ _ z) (O.lm d C) (λj hj=>by have:=O.dw.lt i d X j hj;lia) (O.dw.l8 d C);erw[Jo (S':=[none,none,some _,some _]) rfl ?_];erw[JK (cw.of tP) ?_];exists dt ?_;exists#[a,p1,p2,_,_,rfl,gd.same a1,gm,λc H4 s4 gc=>?_];exists#[uc,?_];sleep 5;have sB:=sP.trans (s4.trans s5);erw[by rw[vt];lia,b++[p5],by rw[vj];rfl,r.trans sB,?_];rw[take_snoc (AJ X)];rwa[bX.snoc (bX.mono B λa x h=>cU.same sB h) #[c,t5,Wr.mpr (gc.same s5)]]
 rintro m e ⟨b,rfl,r,B⟩;have kl:⇑(fI ls y)=⇑((List.range ⇑y).map λk=>V.str (hZ k)):=by rw[Zz,vt,length_range]
 rw[<-kl,v5]at B;have pl:=B.1;rw[Zz]at pl;erw[by rw[vt];lia,?_];sleep 6;exists#[uc,?_];sleep 7;have J:=s6.trans s7;have I:=r.trans J;have G:=g.trans I;rwa[q p7 p3 p6 b H7 G #[t7,I _ _ t3,la.mono λa x h=>G _ _ h,s7 _ _ t6,B.mono λa x h=>cU.same J h] (none_of o hp3) (none_of (g.trans r) hp6) (je (r _ _ t3) hp6)]
def HK:2<*t.ku t.kE ["book"] (fD):=by
 specialize T.wI.F.ok YD;let⟨b,pl,pp,a1,I,ls,o,rfl,B,W,q⟩:=h;erw[_,#v["Bj:ŅVļĽ,ă/Ņ2,Y1Ņ5Ņk'ØĹ:ɔŇPǍcçmãVƽƾ*ŇPǍcçmº%'"],?_]
 rotate_right 104
 have a2:=W.nF;have pa:=B.pa.1;exists cg B.t ?_;exists#[pp,I,bQ o,rfl,B.p,by rw[bQ,vt];rwa[pa],λi a x ea X=>?_,W.pn,by rw[bQ,vt];lia,λd H1 J hd ed=>?_]
 .unfold bQ at X;rw[vv]at X;let⟨p,ep,rfl⟩:=vg.mp X;let⟨fb,hb,_⟩:=B.pa.2 i a p ea ep;rwa[_,hb]
 exists#[va _,?_];walk_at"f l hl H2 s2 t2";have nl:=none_of J hl;have L:=J.trans s2;exists cg (L _ _ B.t) ?_;erw[pp,rfl,#[_,bV.of (L _ _ B.p)],?_];refine JD (xs:=I.map V.ref) (λi σ f=>iR λ(m:L7) (O R:N3)=>fq (σ=[↥b,↥d,↥l,O,R]) (bU H1 f) (f l⊂(.lst (m.map V.ref))) ((∀a∈m,H a=none/\a≠l)/\fG f m ((o.take i).map λp=>(cM o p.2).map λj:Nat=>(j:Int))))
  #[[],_,_,rfl,s2,t2,(λa h=>nomatch h),.nil] ?_ ?_ ?_
 .rintro i σ f _ ⟨m,O,R,rfl,v,z,G,C⟩;rwa[bV.of ((J.trans v) _ _ B.p)]
 .rintro i x σ f N ⟨m,O,R,rfl,v,z,G,C⟩;let⟨a,p,rfl,hp,fb,Z,hf⟩:=B.pa.cD N;have hi:=(vx.mp hp).1;have s0:=J.trans v;let⟨wn,w8⟩:=W.f i p hp;have a0:=C.1;rw[vt,vi]at a0;erw[JK (cw.of (s0 _ _ Z)) ?_];exists#[.inl #[rfl,_,bV.of z],?_];exists#[fb,Rm.gF p.2,rfl,Wr.mp (cf.same s0 hf),λc D S M=>?_];have M:D c⊂(.tup (p.2.ns.map V.str)):=by rw[M];cases p.2<;>rfl
  erw[c,rfl,#[_,cw.of M],?_];erw[Z1 (xs:=p.2.ns.map V.str) (λj U f=>U=((p.2.ns.take j).map λx=>(cu (bQ o) x:Int)).map V.int/\D=f) #[rfl,rfl] ?_ ?_ ?_]
  .rintro j U f _ ⟨rfl,rfl⟩;rwa[cw.of M]
  .rintro j x U f N ⟨rfl,rfl⟩;rw[vv]at N;let⟨y,Y,rfl⟩:=vg.mp N;have hj:=(vx.mp Y).1;let⟨k,hk,ek⟩:=wn y (vm Y);erw[Jo (S':=[none,some _]) rfl ?_];exists dt ?_;ac_nf;have g:cY D d (.str y) (some (.int (k:Nat))):=by
    have g:=cY.k (k:=Sum.inr y) ((v.trans S) _ _ ed);rw[Yl W.pn ek]at g;rwa[g]
   erw[d,_,rfl,g,?_];erw[by rw[vt,vt,vi];lia,?_,rfl];rw[take_snoc Y,vj,vj,<-jV W.pn ek];rfl
  rintro U f ⟨rfl,rfl⟩;rw[show(p.2.ns.map V.str).length=⇑p.2.ns from vt _,v5];erw[by rw[vt,vt];lia,?_];sleep 4;have r:=S.trans s4;exists#[l,_,_,rfl,rfl,r _ _ z,by rw[vt];lia,?_];have F:p4≠l:=(je (S _ _ z) hp4).symm;have n4:H p4=none:=none_of (s0.trans S) hp4;erw[m++[p4],_,_,rfl,λc u h=>(jh (je h hl)).trans ((v.trans r) _ _ h),?_,λc n=>?_,?_]
  .rw[jA,vj];rfl
  .rcases vh.mp n with e | e
   .exact G c e
   .rw[vo.mp e];rwa[n4,F]
  .rw[take_snoc hp,vj];erw[bX.snoc (bX.mM C λc n ks h=>(jh (G c n).2).trans (r _ _ h)) ?_];have eq:List.map (λj:Nat=>(j:Int)) (cM o p.2)=p.2.ns.map λx=>(cu (bQ o) x:Int):=by
    unfold cM;rw[v6];rfl
   show upd H4 l _ p4⊂(.lst (List.map V.int (List.map (λj:Nat=>(j:Int)) (cM o p.2))));rw[jh F,t4,eq]
 rintro S' D ⟨m,O,R,rfl,v,z,G,C⟩;rw[vt,pa,v5]at C;ac_nf;rwa[q l m D (J.trans v) nl z (λa ha=>(G a ha).1) C]
def Lx:3<*t.Xt t.XI ["book"] (h7):=by
 specialize T.A0.F.ok ZJ;let⟨b,pl,pp,an,au,ls,ps,rfl,B,W,q⟩:=h;erw[_,#v["6:ÈVļĽ,ă/ÈƂ0ƃ_,»ƄƅY1È5Èr.È¸><ÈäÓzIƯ+ºII¥2*EÈ4ņȉǎɖɗɘ+Òə$ğĠ§-k'`ɚ$ƿǀǏǎɛɜɝ+'"],?_]
 rotate_right 107
 have aK:=W.nF;have l8:=W.l8;have pa:=B.pa.1;have la:=B.la.1;exists cg B.t ?_;exists#[pl,an,bQ ls,rfl,B.l,by rw[bQ,vt];rwa[la],λi a x ea ex=>?_,W.ln,by rw[bQ,vt];lia,λd H1 s1 hd ed=>?_]
 .unfold bQ at ex;rw[vv]at ex;let⟨p,ep,rfl⟩:=vg.mp ex;rwa[_,B.la.2 i a p ea ep]
 exists#[va _,?_];walk_at"f l hl H2 s2 t2";have nl:=none_of s1 hl;have ac:=s1.trans s2;have aD:d≠l:=je ed hl;exists cg (ac _ _ B.t) ?_;exists#[b,pl,pp,an,au,ls,ps,rfl,B.same ac,W,λli am H3 s3 al af aF lia=>?_];ac_nf;have F:=ac.trans s3;have ao:=lia.1;rw[vt]at ao;have aG:li≠l:=λz=>by rw[z,t2]at al;cases al
 erw[pp,li,_,_,rfl,bV.of (F _ _ B.p),bV.of af,?_];have a9:∀{c u},H c⊂u->c≠l:=λh=>je h nl
 have t3:H3 l⊂(.lst []):=s3 _ _ t2;refine IT (xs:=au.map V.ref) (ys:=am.map V.ref) (λi σ H'=>rA λ(X:L7) (E:L0) (o3 o4 o5 o6 O:N3)=>iQ (σ=[↥b,↥d,↥l,o3,o4,o5,o6,O]) (∀c u,c≠l->H3 c⊂u->H' c⊂u) (H' l⊂(.lst (X.map V.ref))) (∀a∈X,H a=none/\a≠l) (⇑E=i) (mh H' X E/\c9 ls ps E))
  (by rw[vt,vt];lia) #[[],[],_,_,_,_,_,rfl,λc u _ h=>h,t3,(λa h=>nomatch h),rfl,.nil,λi p e _ h=>by simp at h] ?_ ?_ ?_
 .rintro i σ H' _ ⟨X,E,o3,o4,o5,o6,O,rfl,sm,e1,na,lE,aE,oE⟩;rwa[bV.of (sm _ _ (a9 B.p) (F _ _ B.p)),bV.of (sm _ _ aG af)]
 .rintro i u v σ H' P U hu hv ⟨X,E,o3,o4,o5,o6,O,rfl,sm,e1,na,lE,aE,oE⟩ sP tP;let⟨a,p,rfl,hp,fb,ag,hf⟩:=B.pa.cD hu;let⟨ia,is,rfl,ak,ay⟩:=lia.cD hv;rw[vv,hp]at ak;cases ak;have hi:=(vx.mp hp).1;have aA:ia∈am:=by
   rw[vv]at hv;let⟨a',ea,e'⟩:=vg.mp hv;injection e' with e';subst e';rwa[vm ea]
  have aq:ia≠l:=λz=>by have:=aF ia aA;rw[z,t2]at this;cases this
  have C:∀c u,c≠l->H3 c⊂u->U c⊂u:=λc u Y h=>sP _ _ (sm _ _ Y h)
  have ah:U a=_:=C _ _ (a9 ag) (F _ _ ag);have Z:U ia=_:=C _ _ aq ay;have aw:U d=_:=C _ _ aD (s3 _ _ (s2 _ _ ed));have I:=sP _ _ e1;have a3:cf U fb p.2:=by
   have J:=cf.same F hf;generalize p.2=f at J;have np:∀{c:Addr} {xs:N2},H3 c⊂.tup xs->c≠l:=λh=>Jz h t3 (λz=>by cases z)
   cases f with
   | row ps=>let⟨c,y,M⟩:=J;rwa[c,C _ _ (np y) y,C _ _ (np M) M]
   | side ps=>let⟨c,y,M⟩:=J;rwa[c,C _ _ (np y) y,C _ _ (np M) M]
   | hold n=>rwa[C _ _ (np J) J]
   | ring x n=>rwa[C _ _ (np J) J]
   | rise x g n=>rwa[C _ _ (np J) J]
   | again x n=>rwa[C _ _ (np J) J]
  have w8:=(W.f i p hp).2;have wr:=λx h n (e:p.2 = .rise x h n)=>W.r i p.1 x h n (by rw[hp,<-e])
  have aB:=λj=>W.cQ (j:=j) hp
  have ad:=kF W ⋯ oE;have ae:∀(j:Nat) (e:Np),E[j]?⊂e->⇑e<=8:=λj e h=>Ca W ⋯ oE h
  erw[JK (cw.of tP) ?_];exists cg ah ?_;ac_nf;walk_at"f dl hdl H5 s5 t5";exists#[λS' H6=>S'=[↥b,↥d,↥l,↥a,↥ia,↥fb,↥dl,O]/\bU U H6/\H6 dl⊂(.dK ((rS ls p.2).map i5)),?_,?_]
  rotate_left
  .by_cases a6:∃x h n,p.2 = .rise x h n
   .let⟨x,h,n,e⟩:=a6;rw[e]at a3;have a4:H5 fb⊂(.tup [.str "raise",.str x,.int h,.int n]):=s5 _ _ a3;let⟨j,N⟩:=wr x h n e;exists cg a4 ?_;exists cI ?_;exists cg a4 ?_;exists cg a4 ?_;have g:cY H5 d (.str x) (some (.int (j:Nat))):=by
     have g:=cY.k (k:=Sum.inr x) (s5 _ _ aw);rw[Yl W.ln N]at g;rwa[g]
    erw[d,_,rfl,g,?_];erw[dl,_,rfl,fV.k (k:=Sum.inl (j:Int)) t5 (by show 0<sizeLine;lia),?_];erw[rfl,λc u h=>(jh (je h hdl)).trans (s5 _ _ h),?_];rw[jA,e];show _⊂(HO.dK [i5 ((cu (bQ ls) x:Nat),h)]);rw[jV W.ln N];rfl
   .let⟨k,xs,hk,dk⟩:=Cj a3 λx v n e=>a6 #[x,v,n,e]
    exists dY (cw.of (s5 _ _ hk)) (iw) ?_;exists fe dk ?_;exists#[rfl,s5,?_];rw[IY λx v n e=>a6 #[x,v,n,e]];rwa[t5]
  rintro S' H6 ⟨rfl,s6,t6⟩;ac_nf;have ai:=s6 _ _ Z;have a8:∀{c u},U c⊂u->c≠dl:=λh=>je h hdl
  erw[ia,rfl,#[_,bV.of ai],?_];refine JD (xs:=((cM ps p.2).map λj:Nat=>(j:Int)).map V.int) (λt σ H7=>fW λ(m:Np) (O:N3)=>mR (σ=[↥b,↥d,↥l,↥a,↥ia,↥fb,↥dl,O]) (bU U H7) (H7 dl⊂(.dK (m.map i5))) ((m.map (·.1)).Nodup) (∀k v,(k,v)∈m↔cF E ((cM ps p.2).take t) k v\/(k,v)∈rS ls p.2))
   #[_,_,rfl,s6,t6,Nd _,λk v=>#[.inr,λh=>h.elim (λ⟨ab,j,a1,e,_⟩=>by cases ab<;>simp at e) id]] ?_ ?_ ?_
  .rintro t σ H7 _ ⟨m,O,rfl,G,t7,D,m7⟩;rwa[bV.of (G _ _ Z)]
  .rintro t x σ H7 hx ⟨m,O,rfl,G,t7,D,m7⟩;rw[vv,vv]at hx;let⟨jj,az,rfl⟩:=vg.mp hx;let⟨j,N,rfl⟩:=vg.mp az;have aI:=aB j (vm N);have e0:rS ls p.2=[]:=by
    rcases Nc (ps:=ps) (ls:=ls) p.2 with z | z
    .rw[z]at N;simp at N
    .exact z
   rw[e0]at m7;have hE:E[j]?⊂(E.getD j []):=by rw[vy,vz ⋯];rfl
   let⟨aj,ax,bs,a2,R⟩:=aE.get hE;have ap:((E.getD j []).map (·.1)).Nodup:=((oE j _ _ (vz ⋯) hE).1).imp λh=>Int.ne_of_lt h
   have e8:=ae j _ hE;have k8:⇑m<=8:=by
    have z:=YM (n:=⇑ls) D λk hk=>by
     let⟨L,a5,rfl⟩:=vK.mp hk;rcases(m7 L.1 L.2).mp a5 with⟨ab,i',a1,_,o,_⟩ | o
     .exact ad i' _ o
     .exact nomatch o
    rw[vt]at z;lia
   exists#[.inr (.inr (.inl #[rfl,.inl #[_,t7]])),?_];exists ck (bV.of (G _ _ I)) (Zw (i:=(j:Int)) ⋯ ax) ?_;exists#[aj,bs,E.getD j [],rfl,G _ _ (sP _ _ a2),R.1,λi' c L y M=>G _ _ (sP _ _ (R.2 i' c L y M)),?_];walk_at"f d2 hd2 H8 s8 t8";ac_nf;rw[show([]:List (Key×V))=([]:Np).map i5 from rfl,Y9,FI ap]at t8;have n2:dl≠d2:=je t7 hd2;erw[dl,d2,_,_,rfl,rfl,s8 _ _ t7,t8,n2,by rw[vt,vt];lia,?_];rw[Y9];let⟨mn,mm⟩:=xY D ap;erw[fw m (E.getD j []),_,rfl,λc u h=>(jh (a8 h)).trans (s8 _ _ (G _ _ h)),jA,mn,λk v=>?_];rw[mm,m7,e0,take_snoc N,Gj];constructor
   .rintro(h | ⟨y,h | h⟩)
    .exact .inl (.inl h)
    .exact .inl (.inr #[y,h])
    .exact nomatch h
   .rintro((h | ⟨y,h⟩) | h)
    .exact .inl h
    .exact .inr #[y,.inl h]
    .exact nomatch h
  rintro S' H7 ⟨m,aJ,rfl,G,t7,D,m7⟩;rw[vt,vt,v5]at m7;have k8:⇑m<=8:=by
   have z:=YM (n:=⇑ls) D λk hk=>by
    let⟨L,a5,rfl⟩:=vK.mp hk;rcases(m7 L.1 L.2).mp a5 with⟨ab,i',a1,_,o,_⟩ | o
    .exact ad i' _ o
    .let⟨x,n,e,ek⟩:=XX.mp o;let⟨j,N⟩:=wr x _ n e;have h3:=Dl (vm N);have h4:⇑(bQ ls)=⇑ls:=vt _;rw[ek];lia
   rw[vt]at z;lia
  exists#[.inl #[rfl,_,bV.of (G _ _ I)],?_];exists#[.inr (.inr (.inl #[rfl,.inl #[_,t7]])),dl,_,rfl,rfl,t7,?_];walk_at"f vw hvw H8 s8 t8";exists#[vw,dl,m,rfl,t8,s8 _ _ t7,⋯,λr cs ms H9 s9 a7 e9 n9 a0 pw aC av=>?_];ac_nf;have aH:=aE.1;erw[l,_,_,rfl,rfl,s9 _ _ (s8 _ _ (G _ _ I)),by rw[vt];lia,?_];have S:=G.trans (s8.trans s9);have aa:r≠l:=(je (s8 _ _ (G _ _ I)) a7).symm;have nr:H r=none:=by
   cases z:H r with
   | none=>rfl
   | some u=>rw[s8 _ _ (G _ _ (C _ _ aa (F _ _ z)))]at a7;cases a7
  have ar:∀{c:Addr} {xs:N2},H9 c⊂.tup xs->c≠l:=λh=>Jz h (S _ _ I) (λz=>by cases z)
  erw[X++[r],E++[ms],_,_,_,_,_,rfl,λc u Y h=>(jh Y).trans (S _ _ (C _ _ Y h)),?_,λc Y=>?_,by rw[vn,lE];rfl,?_,?_]
  .rw[jA,vj];rfl
  .rcases vh.mp Y with z | z
   .exact na c z
   .rw[vo.mp z];rwa[nr,aa]
  .refine bX.snoc (bX.mM aE λc Y e h=>?_) ?_
   .let⟨bs,a2,R⟩:=h;erw[bs,(jh (na c Y).2).trans (S _ _ (sP _ _ a2)),bX.mono R λc' L h'=>?_];have h9:=S _ _ (sP _ _ h');rwa[(jh (ar h9)).trans h9]
   .exact#[cs,(jh aa).trans e9,aC,λi' c L y M=>(jh (ar (av i' c L y M))).trans (av i' c L y M)]
  .refine c9.snoc W oE (p:=p) (by rw[lE];rwa[hp]) ?_ λk v=>?_
   .exact Ht (a0.map _) D pw
   .rw[a0.mem_iff,m7];rwa[λh=>h.imp id XX.mp,λh=>h.imp id XX.mpr]
 rintro S' H' ⟨X,E,o3,o4,o5,o6,O,rfl,sm,e1,na,lE,aE,oE⟩;rw[vt]at lE;ac_nf;rwa[q l X E H' (λc u h=>sm _ _ (a9 h) (F _ _ h)) nl e1 (λa ha=>(na a ha).1) ⋯ aE oE]
def HL:4<*t.Xu t.XJ ["book"] (iJ):=by
 specialize T.C3.F.ok WR;let⟨b,pl,pp,Y,a2,ls,ps,rfl,B,W,q⟩:=h;erw[_,#v["Ĉ:ǐ2»Ǒǒ/ǐk#ČƆƀ¯ɞĚPcƇ2'ĚPcƇĚPcƇ%#"],?_]
 rotate_right 102
 have a5:=W.nF;exists#[va _,?_];walk_at"f l hl H1 s1 t1";exists#[b,pl,pp,Y,a2,ls,ps,rfl,B.same s1,W,λe as E H2 s2 he ee ne lE aE oE=>?_];have I:=aE.1;have a3:=s1.trans s2;have l2:H2 l⊂(.lst []):=s2 _ _ t1;have a1:l≠e:=λz=>by rw[z,he]at t1;cases t1
 erw[e,rfl,#[_,bV.of ee],?_];refine JD (xs:=as.map V.ref) (λi σ n=>fW λ(g:L7) (F:N3)=>fq (σ=[↥b,↥l,F]) (∀c u,c≠l->H2 c⊂u->n c⊂u) (n l⊂(.lst (g.map V.ref))) ((∀c∈g,H1 c=none/\c≠l)/\fG n g ((E.take i).map λe=>e.map (·.1))))
  #[[],_,rfl,λc u _ h=>h,l2,(λc h=>nomatch h),.nil] ?_ ?_ ?_
 .rintro i σ n _ ⟨g,F,rfl,m,p,C,r⟩;rwa[bV.of (m _ _ a1.symm ee)]
 .rintro i x σ n S ⟨g,F,rfl,m,p,C,r⟩;let⟨a,M,rfl,f,J,O,D⟩:=aE.cD S;have hi:=(vx.mp f).1;have X:=r.1;rw[vt,vi]at X;have am:a∈as:=by
   rw[vv]at S;let⟨a',ea,L⟩:=vg.mp S;injection L with L;subst L;rwa[vm ea]
  have Z:a≠l:=λz=>by have:=ne a am;rw[z,t1]at this;cases this
  have v:n a⊂(.lst (J.map V.ref)):=m _ _ Z O;have a4:=(oE i _ M (vz ⋯) f).1;have N:=Ca W ⋯ oE f;exists#[.inl #[rfl,_,bV.of p],?_];exists#[a,rfl,#[_,bV.of v],?_];erw[Jn (xs:=J.map V.ref) (λj G d=>G=((M.take j).map (·.1)).map V.int/\n=d) #[rfl,rfl] ?_ ?_ ?_]
  .rintro j G d _ ⟨rfl,rfl⟩;rwa[bV.of v]
  .rintro j x G d U ⟨rfl,rfl⟩;let⟨c,kv,rfl,y,R⟩:=D.cD U;have hj:=(vx.mp y).1;have a0:c≠l:=λz=>by rw[z,l2]at R;cases R
   erw[Jo (S':=[none,none]) rfl ?_];erw[JK (cw.of (m _ _ a0 R)) ?_];exists dt ?_;exists#[by rw[vt,vt,vi];lia,?_,rfl];rw[take_snoc y,vj,vj];rfl
  rintro G d ⟨rfl,rfl⟩;rw[show(J.map V.ref).length=⇑M by rw[vt];rwa[D.1],v5];erw[by rw[vt,vt];lia,?_];sleep 4;exists#[l,_,_,rfl,rfl,s4 _ _ p,by rw[vt];lia,?_];have o:p4≠l:=(je p hp4).symm;have n4:H1 p4=none:=by
   cases z:H1 p4 with
   | none=>rfl
   | some u=>rw[m _ _ o (s2 _ _ z)]at hp4;cases hp4
  erw[g++[p4],_,rfl,λc u k h=>(jh k).trans (s4 _ _ (m _ _ k h)),?_,λc k=>?_,?_]
  .rw[jA,vj];rfl
  .rcases vh.mp k with z | z
   .exact C c z
   .rw[vo.mp z];rwa[n4,o]
  .rw[take_snoc f,vj];rwa[bX.snoc (bX.mM r λc k ks h=>(jh (C c k).2).trans (s4 _ _ h)) ((jh o).trans t4)]
 rintro S' H3 ⟨g,F,rfl,m,p,C,r⟩;rw[vt,I,v5]at r;exists q l g (E.map λe=>e.map (·.1)) H3 (λc u h=>m _ _ (je h hl) (a3 _ _ h)) hl p (λc k=>none_of s1 (C c k).1) (by rw[vt];rwa[lE]) r (En lE oE)
def xb:1<*t.zE t.zH ["row","moves","limbs"] (eI):=by
 specialize T.kq.F.ok ZX;let⟨r,l,L,J,F,M,rfl,B,D,X,O,g,G,q⟩:=h;erw[_,#v["ĘXÃɟn;#4ġÎĺ0Ļ?'ÐŸǓw1ǔ$Ƭĳ5ǔŹlÙAȍ]ɠ]1ɡŇèéěæƆā2#ŲĀŇèéěæƆƈÃƉN$#%å4ġ"],?_]
 rotate_right 302
 have m:=D.1;exists#[va _,?_];sleep 0;exists#[p0,l,J,M,rfl,rfl,t0,s0 _ _ B,m,λi b e R S=>s0 _ _ (D.2 i b e R S),?_];exists fe (any_empty X) ?_;exists#[L,_,rfl,bV.of (s0 _ _ g),?_];erw[kG (xs:=F.map V.ref) (λi I f=>fW λ(p u:N3)=>I=[~~~r,↥l,↥L,p,u]/\bU H f) #[_,_,rfl,s0] ?_ ?_ ?_]
 .rintro i I f _ ⟨p,u,rfl,n⟩;rwa[bV.of (n _ _ g)]
 .rintro i v I f P N hx ⟨p,u,rfl,n⟩ Y Z;have y:=n.trans Y;erw[JK (cw.of Z) ?_];exists#[l,rfl,#[_,bV.of (y _ _ B)],?_];refine Jn (xs:=J.map V.ref) (λj z c=>⇑z=⇑((M.take j).filter λe=>decide ((i:Int)∈e))/\N=c) #[rfl,rfl] ?_ ?_ ?_
  .rintro j z c _ ⟨_,rfl⟩;rwa[bV.of (y _ _ B)]
  .rintro j x z c C ⟨o,rfl⟩;let⟨a,e,rfl,k,U⟩:=D.cD C;erw[Jo (S':=[none,some _]) rfl ?_];exists#[a,_,rfl,.inl (bV.of (y _ _ U)),rfl,pK e,?_];rw[E4];ac_nf;have W:⇑((M.take j).filter λe=>decide ((i:Int)∈e))<=8:=vW (length_filter_le _ _) (vW (List.length_take_le' _ _) O);refine cA (λd=>?_) (λd=>?_)
   .exists#[⋯,?_,rfl];rw[take_snoc k,filter_append,v8,vd (vG d),vn,vn,o];rfl
   .refine#[?_,rfl];rw[take_snoc k,filter_append,v8,vc #v[d],vn,o];rfl
  rintro z c ⟨o,rfl⟩;rw[vt,m,v5]at o;have o1:=G (i:Int);erw[⋯,?_];sleep 2;exists#[_,_,rfl,.inl #[_,bV.of t2,rfl],?_];exists cA (λd=>?_) (λd=>?_)
  .exfalso;lia
  .ac_nf;rwa[_,_,rfl,y.trans s2]
 rintro S' f ⟨p,u,rfl,n⟩;rwa[q f n]
def X9:1<*t.Zu t.ZB ["form","inside"] (eQ):=by
 specialize T.wd.F.ok Fj;let⟨a,l,f,j,rfl,d,i,e,q⟩:=h;erw[_,#v["B¦`Ɗ$Ƌƌ#J¦`ƍ$ŉŊ#¦Ė,Ķ#Lĸ%Z"],?_]
 rotate_right 200
 have B:(200:Nat)<sizeLine:=by decide
 cases f with
 | hold n=>
  have c:H a⊂(.tup _):=d;exists cg c ?_;exists bZ ?_;exists cg c ?_;exists bZ ?_;exists cg c ?_;exists bZ ?_;exists cg c ?_;rwa[q _ rfl]
 | ring x n=>
  have c:H a⊂(.tup _):=d;exists cg c ?_;exists bZ ?_;exists cg c ?_;exists bZ ?_;exists cg c ?_;exists bZ ?_;exists cg c ?_;rwa[q _ rfl]
 | rise x v n=>
  have c:H a⊂(.tup _):=d;exists cg c ?_;exists bZ ?_;exists cg c ?_;exists bZ ?_;exists cg c ?_;exists bZ ?_;exists cg c ?_;rwa[q _ rfl]
 | row ps=>
  let⟨b,c,p⟩:=d;exists cg c ?_;exists cI ?_;exists#[l,j,rfl,bV.of i,?_];rwa[q _ rfl]
 | side ps=>
  let⟨b,c,p⟩:=d;exists cg c ?_;exists bZ ?_;exists cg c ?_;exists cI ?_;exists#[l,j,rfl,bV.of i,length_pos_iff.mpr e,λg m o=>?_];rwa[q g #[m,o]]
 | again k x=>
  have c:H a⊂(.tup _):=d;let⟨y,r,rfl,u,z,C,D⟩:=e;exists cg c ?_;exists bZ ?_;exists cg c ?_;exists bZ ?_;exists cg c ?_;exists cI ?_;exists cg c ?_;exists ck (bV.of i) (iw) ?_;ac_nf;rwa[q _ #[y,rfl,rfl]]
def FN:5<*t.Kz t.KJ ["book"] (gq):=by
 specialize T.xm.F.ok Qr;let⟨b,pl,pp,Z,a7,ls,F,gs,hs,rfl,B,S,q⟩:=h;erw[_,#v["Bj:ê»ɢɣJj/ê;Îĺ0Ļ?»ƄƅY1ê5êU.êi,&ÓzIņ{ɤɥ&Øŋ:ǕŌPécèëmō2*ŌPécèëmōLłN$#%,U<êGɦɧ(Øŋ/ǕŌPécèëmō2*ŌPécèëmōLłN$#%XTň+À4ġk'+'"],?_]
 rotate_right 106
 have W:=S.w;have pa:=B.pa.1;have gl:=S.gl;have aw:=W.nF;exists#[b,pl,pp,Z,a7,_,_,rfl,B,W,λlm ab M H1 s1 ar ae av Ml aM oM=>?_];have mg:=S.mv M Ml oM;have aq:=aM.1;exists#[va _,?_];walk_at"f l hl H2 s2 t2";have nl:=none_of s1 hl;have a8:=s1.trans s2;exists#[b,pl,pp,Z,a7,_,_,rfl,B.same a8,W,λli a3 H3 s3 a2 a1 al lia=>?_];ac_nf;have a9:=a8.trans s3;have ao:=s2.trans s3;have J:=lia.1;rw[vt]at J;have am:li≠l:=λz=>by rw[z,t2]at a2;cases a2
 have t3:H3 l⊂(.lst []):=s3 _ _ t2;have a6:∀{c u},H c⊂u->c≠l:=λh=>je h nl
 have an:∀{c u},H1 c⊂u->c≠l:=λh=>je h hl
 erw[li,_,rfl,bV.of a1,?_];refine kG (xs:=a3.map V.ref) (λi σ r=>lK λ(o3 o4 o5 o6:N3)=>dG (σ=[↥b,↥lm,↥l,o3,o4,o5,o6]) ((∀c u,c≠l->H3 c⊂u->r c⊂u)/\r l⊂(.lst ((gs.take i).map V.int))))
  #[_,_,_,_,rfl,λc u _ h=>h,t3] ?_ ?_ ?_
 .rintro i σ r _ ⟨o3,o4,o5,o6,rfl,sm,e1⟩;rwa[bV.of (sm _ _ am a1)]
 .rintro i v σ r P C hv ⟨o3,o4,o5,o6,rfl,sm,e1⟩ sP tP;let⟨X,as,rfl,O,ah⟩:=lia.cD hv;have hi:i<⇑F:=by
   have:=(vx.mp O).1;rw[vt]at this;rwa[this]
  obtain⟨p,hp⟩:∃p,F[i]?⊂p:=#[_,vz hi]
  rw[vv,hp]at O;cases O;let⟨a,ea,fb,af,hf⟩:=B.pa.get hp;have aj:X∈a3:=by
   rw[vv]at hv;let⟨a',ad,e'⟩:=vg.mp hv;injection e' with e';subst e';rwa[vm ad]
  have a5:X≠l:=λz=>by have:=al X aj;rw[z,t2]at this;cases this
  have k4:∀c u,c≠l->H3 c⊂u->C c⊂u:=λc u I h=>sP _ _ (sm _ _ I h)
  have y:∀c u,H c⊂u->C c⊂u:=λc u h=>k4 _ _ (a6 h) (a9 _ _ h)
  have a4:∀c u,H1 c⊂u->C c⊂u:=λc u h=>k4 _ _ (an h) (ao _ _ h)
  have o:C X⊂(.lst (((cM F p.2).map λj:Nat=>(j:Int)).map V.int)):=k4 _ _ a5 ah;have ac:=sP _ _ e1;have m:cf C fb p.2:=cf.same y hf;have Y:=λj=>W.cQ (j:=j) hp
  have w8:⇑(cM F p.2)<=8:=by unfold cM;rw[vt];rwa[(W.f i p hp).2]
  let⟨lp,ak⟩:=S.ln i p hp;have au:=S.gb i hi;erw[JK (cw.of tP) ?_];exists cg (y _ _ B.t) ?_;exists ck (bV.of (y _ _ B.p)) (Zw (i:=(i:Int)) ⋯ ea) ?_;exists cg (y _ _ af) ?_;exists#[λS' H5=>S'=[↥b,↥lm,↥l,~~~i,↥X,↥fb,o6]/\bU C H5,?_,?_]
  rotate_left
  .by_cases U:∃qs,p.2 = .side qs
   .let⟨qs,e⟩:=U;have ap:=S.sd i p qs hp e;generalize cM F p.2=is at o Y ap w8;rw[e]at m;let⟨nb,ag,_⟩:=m;exists cg ag ?_;exists cI ?_;exists#[X,rfl,#[_,bV.of o],?_];have aa:∀j∈is,∃c,ab[j]?⊂c/\C c⊂(.lst ((hs.getD j []).map V.int)):=λj D=>by
     have jl:=Y j D;let⟨c,I,h1⟩:=aM.get (i:=j) (x:=M.getD j []) (by rw[vy,vz ⋯];rfl);rw[mg j ⋯]at h1;rwa[c,I,a4 _ _ h1]
    erw[Jn (xs:=(is.map λj:Nat=>(j:Int)).map V.int) (λt G r=>dH λ(L:L7)=>dG (G=L.map V.ref) (fG C L ((is.take t).map λj=>hs.getD j [])/\C=r)) #[[],rfl,.nil,rfl] ?_ ?_ ?_]
    .rintro t G r _ ⟨L,rfl,lc,rfl⟩;rwa[bV.of o]
    .rintro t x G r hx ⟨L,rfl,lc,rfl⟩;rw[vv,vv]at hx;let⟨jj,R,rfl⟩:=vg.mp hx;let⟨j,D,rfl⟩:=vg.mp R;let⟨c,I,h1⟩:=aa j (vm D);have a0:=lc.1;rw[vt,vi]at a0;erw[Jo (S':=[none,some _]) rfl ?_];exists dt ?_;exists ck (bV.of (a4 _ _ ae)) (Zw (i:=(j:Int)) ⋯ I) ?_;erw[by rw[vt];lia,L++[c],by rw[vj];rfl,?_,rfl];rw[take_snoc D,vj];rwa[bX.snoc lc h1]
    rintro G r ⟨L,rfl,lc,rfl⟩;rw[vt,vt,v5]at lc;have a0:=lc.1;rw[vt]at a0;erw[by rw[vt];lia,?_];sleep 5;exists cg (s5 _ _ (y _ _ B.t)) ?_;exists#[_,p5,pl,L,Z,(is.map λj=>hs.getD j []),rfl,t5,bX.mono lc λc ks h=>s5 _ _ h,λks ai=>?_,by rw[vt];lia,s5 _ _ (y _ _ B.l),ap.2,λH6 s6=>?_]
    .let⟨j,D,rfl⟩:=vK.mp ai;rwa[ap.1 j D]
    ac_nf;rwa[rfl,s5.trans s6]
   .have kd:∃k xs,C fb⊂(.tup (.str k::xs))/\decide (k=("side" : Str))=false:=by
     generalize p.2=f at m U;cases f with
     | side qs=>rwa[uf #[qs,rfl] U]
     | hold n=>rwa[_,_,m,by trivial]
     | ring x n=>rwa[_,_,m,by trivial]
     | rise x v n=>rwa[_,_,m,by trivial]
     | row qs=>let⟨_,h1,_⟩:=m;rwa[_,_,h1,by trivial]
     | again k x=>rwa[_,_,m,by trivial]
    let⟨k,xs,hk,dk⟩:=kd;exists dY (cw.of hk) (iw) ?_;exists fe dk ?_;ac_nf;rwa[rfl,bU.refl _]
  rintro S' H5 ⟨rfl,s5⟩;exists#[X,rfl,#[_,bV.of (s5 _ _ o)],?_];have N:=s5 _ _ ac;erw[Jn (xs:=((cM F p.2).map λj:Nat=>(j:Int)).map V.int) (λt G r=>G=(((cM F p.2).take t).map λj=>gs∘j).map V.int/\H5=r) #[rfl,rfl] ?_ ?_ ?_]
  .rintro t G r _ ⟨rfl,rfl⟩;rwa[bV.of (s5 _ _ o)]
  .rintro t x G r hx ⟨rfl,rfl⟩;rw[vv,vv]at hx;let⟨jj,R,rfl⟩:=vg.mp hx;let⟨j,D,rfl⟩:=vg.mp R;have jl:=Y j (vm D);erw[Jo (S':=[none,some _]) rfl ?_];exists dt ?_;exists ck (bV.of N) (Bv ⋯ jl) ?_;erw[by rw[vt,vt,vi];lia,?_,rfl];rw[take_snoc D,vj,vj];rfl
  rintro G r ⟨rfl,rfl⟩;rw[show(((cM F p.2).map λj:Nat=>(j:Int)).map V.int).length=⇑(cM F p.2) by rw[vt,vt],v5];erw[by rw[vt,vt];lia,?_];sleep 6;exists#[fb,p6,p.2,_,rfl,cf.same (s5.trans s6) m,t6,lp,λg hg=>?_];have eg:=ak g hg;subst eg;exists cA (λd=>?_) (λd=>?_)
  .exfalso;lia
  exists#[.inl #[rfl,_,bV.of (s6 _ _ N)],?_];exists#[l,_,_,rfl,rfl,s6 _ _ N,by rw[vt,vi];lia,?_];erw[_,_,_,_,rfl,λc u I h=>(jh I).trans (s6 _ _ (s5 _ _ (k4 _ _ I h))),?_];rw[jA,IV ⋯,vj];rfl
 rintro S' r ⟨o3,o4,o5,o6,rfl,sm,e1⟩;rw[vt,J,<-gl,v5]at e1;ac_nf;rwa[q l r (λc u h=>sm _ _ (a6 h) (a9 _ _ h)) nl e1]
def E7:1<*t.Zv t.ZC ["form","inside","sizes"] (eU):=by
 specialize T.we.F.ok qm;let⟨a,l,s0,f,g,C,rfl,o,el,es,i8,hj,a2,q⟩:=h;erw[_,#v["RXÔĵ1ìĶ#>5ìŽÙ,ªÂ&Ȑ,§&;ßªÂ&))*>.ì;£<ì)2#®1ìBM(Â&)+lÔ4ɩw<ì$Ĕ§&ɫ("],?_]
 rotate_right 304
 have S:∀j,j<⇑C->C[j]?⊂(C∘j):=λj h=>by
  rw[vy,vz h];rfl
 by_cases ha:∃k x,f = .again k x
 .let⟨k,x,rfl⟩:=ha;have o:H a⊂(.tup [.str "again",.int k,.str x]):=o;let⟨j,r,rfl⟩:=List.exists_cons_of_ne_nil (a2 k x rfl);have lj:=hj j vq;exists cg o ?_;exists cI ?_;exists ck (bV.of el) (iw) ?_;exists cg o ?_;exists cA (λc=>?_) (λc=>?_)
  .exists cg o ?_;exists ck (bV.of es) (jS (j:=j) (by rw[vv,S j lj];rfl)) ?_;exists#[ub,?_];sleep 1;exists#[ud,?_];sleep 2;exists#[ub,?_];sleep 3;exists#[ud,?_];sleep 4;exists#[p4,p2,_,_,rfl,rfl,t4,s4 _ _ (s3 _ _ t2),uc,?_];sleep 5;have O:=s1.trans (s2.trans (s3.trans (s4.trans s5)));erw[q p5 [p3,p1] _ O (none_of (s1.trans (s2.trans (s3.trans s4))) hp5) t5 ?_];show g9 H5 _ ((j,1,0)::(if 1<k then[(j,k-1,C∘j)]else[]));rw[vd c];rwa[.cons (s5 _ _ (s4 _ _ t3)) (.cons (s5 _ _ (s4 _ _ (s3 _ _ (s2 _ _ t1)))) .nil)]
  .exists#[va _,?_];sleep 2;exists#[ub,?_];sleep 3;exists#[ud,?_];sleep 4;exists#[p4,p2,_,_,rfl,rfl,t4,s4 _ _ (s3 _ _ t2),ud,?_];sleep 5;have O:=s2.trans (s3.trans (s4.trans s5));erw[q p5 [p3] _ O (none_of (s2.trans (s3.trans s4)) hp5) t5 ?_];show g9 H5 _ ((j,1,0)::(if 1<k then[(j,k-1,C∘j)]else[]));rw[vc c];rwa[.cons (s5 _ _ (s4 _ _ t3)) .nil]
 have a3:∃W xs,H a⊂(.tup (.str W::xs))/\decide (W=("again" : Str))=false/\((decide (W=("row" : Str))=true/\∃xs,f = .row xs)\/(decide (W=("row" : Str))=false/\∀g,cW C f g=g.map λj=>(j,1,0))):=by
  cases f with
  | hold n=>rwa[_,_,o,by trivial,.inr #[by trivial,λ_=>rfl]]
  | ring x n=>rwa[_,_,o,by trivial,.inr #[by trivial,λ_=>rfl]]
  | rise x v n=>rwa[_,_,o,by trivial,.inr #[by trivial,λ_=>rfl]]
  | row ps=>let⟨b,F,_⟩:=o;rwa[_,_,F,by trivial,.inl #[by trivial,_,rfl]]
  | side ps=>let⟨b,F,_⟩:=o;rwa[_,_,F,by trivial,.inr #[by trivial,λ_=>rfl]]
  | again k x=>rwa[uf #[k,x,rfl] ha]
 let⟨W,xs,Z,dk,y⟩:=a3;exists dY (cw.of Z) (iw) ?_;exists fe dk ?_;exists#[va _,?_];walk_at"f p hp H1 s1 t1";ac_nf;have np:∀{c u},H c⊂u->c≠p:=λh=>je h hp
 erw[l,rfl,#[_,bV.of (s1 _ _ el)],?_];refine JD (xs:=(g.map λj:Nat=>(j:Int)).map V.int) (λi σ I=>lK λ(o3:N3) (D:Int) (d:L7) (B:List Pc)=>iQ (σ=[↥a,↥l,↥s0,o3,none,↥p,~~~D]) (bU H I) (I p⊂(.lst (d.map V.ref))) (⇑d=i) (g9 I d B) (((∃xs,f = .row xs)->cK C g 0=B++cK C (g.drop i) D)/\(¬(∃xs,f = .row xs)->D=0/\B=(g.take i).map λj=>(j,1,0))))
  #[_,0,[],[],rfl,s1,t1,rfl,.nil,λ_=>rfl,λ_=>#[rfl,rfl]] ?_ ?_ ?_
 .rintro i σ I _ ⟨o3,D,d,B,rfl,X,J,la,hq,F,U⟩;rwa[bV.of (X _ _ el)]
 .rintro i v σ I hv ⟨o3,D,d,B,rfl,X,J,la,hq,F,U⟩;rw[vv,vv]at hv;let⟨jj,a1,rfl⟩:=vg.mp hv;let⟨j,G,rfl⟩:=vg.mp a1;have il:=(vx.mp G).1;have ed:g.drop i=j::g.drop (i+1):=by
   let⟨h,rfl⟩:=vx.mp G;rwa[List.drop_eq_getElem_cons h]
  have lj:=hj j (vm G);exists#[.inl #[rfl,_,bV.of J],?_];exists#[ub,?_];sleep 2;exists#[p,_,_,rfl,rfl,s2 _ _ J,by rw[vt];lia,?_];have n2:p2≠p:=λz=>by rw[z,s2 _ _ J]at t2;cases t2
  have s3:bU H (upd H2 p (.lst (d.map V.ref++[.ref p2]))):=λc u h=>(jh (np h)).trans (s2 _ _ (X _ _ h))
  have e3:upd H2 p (.lst (d.map V.ref++[.ref p2])) p⊂(.lst ((d++[p2]).map V.ref)):=by rw[jA,vj];rfl
  have M:g9 (upd H2 p (.lst (d.map V.ref++[.ref p2]))) (d++[p2]) (B++[(j,1,D)]):=by
   erw[bX.snoc (bX.mono hq λc x h=>?_) ((jh n2).trans t2)];rwa[(jh (λz=>by rw[z,J]at h;cases h)).trans (s2 _ _ h)]
  generalize upd H2 p (.lst (d.map V.ref++[.ref p2]))=H3 at s3 e3 M|-;exists dY (cw.of (s3 _ _ Z)) (iw) ?_;ac_nf;rcases y with⟨Y,m,R⟩ | ⟨Y,L⟩
  .refine lR Y ?_;exists ck (bV.of (s3 _ _ es)) (jS (j:=j) (by rw[vv,S j lj];rfl)) ?_;exists#[_,_,d++[p2],B++[(j,1,D)],rfl,s3,e3,by rw[vn,la];rfl,M,λh=>?_,λh=>uf #[m,R] h];rw[F h,ed,List.append_assoc];rfl
  .refine fe Y ?_;exists#[_,_,d++[p2],B++[(j,1,D)],rfl,s3,e3,by rw[vn,la];rfl,M,λh=>?_,λh=>?_]
   .let⟨m,R⟩:=h;subst R;have:=L [0,0];let⟨bb,a0,_⟩:=o;rw[a0]at Z;cases Z;rwa[uf Y ∅]
   .let⟨b0,eq⟩:=U h;erw[b0,?_];rw[take_snoc G,vj,eq,b0];rfl
 rintro S' I ⟨o3,D,d,B,rfl,X,J,la,hq,F,U⟩;rw[show((g.map λj:Nat=>(j:Int)).map V.int).length=⇑g by rw[vt,vt]]at F U;exists q p d I X hp J ?_;have e:cW C f g=B:=by
  by_cases N:∃xs,f = .row xs
  .let⟨m,rfl⟩:=N;show cK C g 0=B;rw[F #[m,rfl],List.drop_length];rwa[append_nil _]
  .rcases y with⟨_,m,R⟩ | ⟨_,L⟩
   .exact uf #[m,R] N
   .rw[L,(U N).2,v5]
 rw[e];rwa[hq]
def E8:3<*t.Ya t.Yj ["book","sizes"] (eV):=by
 specialize T.wg.F.ok Fl;let⟨b,pl,pp,s0,Z,C,ls,D,gs,rfl,B,W,es,gl,q⟩:=h;erw[_,#v["CČŋë]:ɬdPƏƂ0ƃ_,»ƄƅdPƏdPƏĊɭɮþŎN$%'"],?_];erw[jC (S':=[some _,some _]) rfl ?_]
 try dsimp only[dh,Cx.i7]
 have a3:=W.nF;have pa:=B.pa.1;exists cg B.t ?_;exists#[b,pl,pp,Z,C,ls,D,rfl,B,W,λli Y H3 F a0 n a2 lia=>?_];ac_nf;have y:=lia.1;rw[vt]at y;erw[pp,li,_,_,rfl,bV.of (F _ _ B.p),bV.of n,?_];erw[CA (xs:=C.map V.ref) (zs:=Y.map V.ref) (λi J m=>dH λ(d:L7)=>fq (J=d.map V.ref) (⇑d=i) (bU H3 m) ((∀a∈d,H a=none)/\nQ m d ((D.take i).map λp=>cW gs p.2 (cM D p.2)))) (by rw[vt,vt];lia) #[[],rfl,rfl,bU.refl _,(λa h=>nomatch h),.nil] ?_ ?_ ?_]
 .rintro i J m _ ⟨d,rfl,G,g,I,l⟩;rwa[bV.of (g _ _ (F _ _ B.p)),bV.of (g _ _ n)]
 .rintro i u v J m T0 H4 hu hv ⟨d,rfl,G,g,I,l⟩ sP tP;have hi:=(vx.mp hu).1;rw[vt]at hi;let⟨a,p,rfl,r,fb,R,hf⟩:=B.pa.cD hu;let⟨ia,is,rfl,o,S⟩:=lia.cD hv;rw[vv,r]at o;cases o;have a1:=(vx.mp r).1;have s4:=g.trans sP;have f:=F.trans s4;have i8:⇑(cM D p.2)<=8:=by unfold cM;rw[vt];exact(W.f i p r).2
  erw[Jo (S':=[none,none,some _]) rfl ?_];erw[JK (cw.of tP) ?_];exists dt ?_;exists cg (f _ _ R) ?_;exists#[fb,ia,s0,p.2,cM D p.2,gs,rfl,cf.same f hf,s4 _ _ S,f _ _ es,i8,λj hj=>by have:=W.cQ r hj;lia,λk x e=>by rw[e];rwa[cons_ne_nil _ _],λp5 L H5 s5 U e5 X=>?_];erw[by rw[vt];lia,d++[p5],by rw[vj];rfl,by rw[vn,G];rfl,s4.trans s5,λc hc=>(vh.mp hc).elim (I c) λz=>by rw[vo.mp z];rwa[none_of f U],?_];rw[take_snoc r,vj];erw[bX.snoc (bX.mono l λc x h=>?_) #[L,e5,X]];let⟨M,N,O⟩:=h;rwa[M,s5 _ _ (sP _ _ N),bX.mono O λc x h=>s5 _ _ (sP _ _ h)]
 rintro J m ⟨d,rfl,G,g,I,l⟩;rw[vt]at G l;erw[by rw[vt];lia,?_];sleep 4;erw[q _ d _ (F.trans (g.trans s4)) (none_of (F.trans g) hp4) t4 ?_ I];rw[pa,v5]at l;erw[bX.mono l λc x h=>?_]
 let⟨M,N,O⟩:=h;rwa[M,s4 _ _ N,bX.mono O λc x h=>s4 _ _ h]
def kS:6<*t.J0 t.qU ["self","book"] (iI t.jF):=by
 specialize T.Kn.ok Kf;let⟨a,m,b,pl,pp,g,C,R,ps,gs,hs,rfl,ha,B,N,q⟩:=h;erw[_,#v["B©VļĽS#R©Čçƀ¯ǖĕ2S#ĕĕ#©Čçm¯ǖĕ2S#ĕĕ#R©Vɱɲ#©VǑǒ#4©Gɳɴ#@"],?_]
 rotate_right 200
 have W:=N.s.w;have gl:=N.s.gl;have l8:=W.l8;have ae:=W.nF;have la:=B.la.1;have ac:=B.pa.1;let⟨S,I,n0,X⟩:=B.less ha;have z0:bU S H:=I H λc u _ h=>h
 exists cg B.t ?_;exists#[pl,g,bQ R,rfl,B.l,by rw[bQ,vt];rwa[la],λi a x ea ex=>?_,W.ln,by rw[bQ,vt];lia,λd H1 s1 hd ed=>?_]
 .unfold bQ at ex;rw[vv]at ex;let⟨p,ep,rfl⟩:=vg.mp ex;rwa[_,B.la.2 i a p ea ep]
 exists#[a,_,m,[],rfl,s1 _ _ ha,T.jP,T.Qh,(by show 0<1000;decide),?_];have nd:d≠a:=λz=>by rw[z,ha]at hd;cases hd
 generalize e2:upd H1 a _=H2;have k2:∀c u,c≠a->H1 c⊂u->H2 c⊂u:=λc u n h=>e2▸(jh n).trans h
 have a2:=Qc e2;clear e2;have z2:bU S H2:=I H2 λc u n h=>k2 _ _ n (s1 _ _ h)
 have B2:=X.same z2;exists cg B2.t ?_;exists#[pl,rfl,#[_,bV.of B2.l],?_];erw[Jn (xs:=g.map V.ref) (λi F o=>F=((R.map (·.2)).take i).map V.int/\H2=o) #[rfl,rfl] ?_ ?_ ?_]
 .rintro i F o _ ⟨rfl,rfl⟩;rwa[bV.of B2.l]
 .rintro i v F o hv ⟨rfl,rfl⟩;let⟨a,p,rfl,hp,M⟩:=B2.la.cD hv;have hi:=(vx.mp hp).1;erw[Jo (S':=[none,none]) rfl ?_];erw[JK (cw.of M) ?_];exists dt ?_;exists#[by rw[vt,vi,vt];lia,?_,rfl];rw[take_snoc (show(R.map (·.2))[i]?⊂p.2 by rw[vv,hp];rfl),vj];rfl
 rintro F o ⟨rfl,rfl⟩;rw[show(g.map V.ref).length=⇑(R.map (·.2)) by rw[vt,vt];rwa[la],v5];erw[by rw[vt,vt];lia,?_];sleep 3;exists#[a,_,m,_,rfl,s3 _ _ a2,T.jP,T.Q6,Ao (Jy _ _ _) nofun,?_];have n3:p3≠a:=λz=>by rw[z,a2]at hp3;cases hp3
 generalize e4:upd H3 a _=H4;have k4:∀c u,c≠a->H3 c⊂u->H4 c⊂u:=λc u n h=>e4▸(jh n).trans h
 have a4:=Qc e4;clear e4;have z4:bU S H4:=λc u h=>k4 _ _ (n0 h) (s3 _ _ (z2 _ _ h))
 have B4:=X.same z4;exists cg B4.t ?_;exists#[pp,rfl,#[_,bV.of B4.p],?_];erw[Jn (xs:=C.map V.ref) (λi F o=>dH λ(f:L7)=>dG (F=f.map V.ref) (bX (λa p=>cf H4 a p.2) f (ps.take i)/\H4=o)) #[[],rfl,.nil,rfl] ?_ ?_ ?_]
 .rintro i F o _ ⟨f,rfl,J,rfl⟩;rwa[bV.of B4.p]
 .rintro i v F o hv ⟨f,rfl,J,rfl⟩;let⟨a',p,rfl,hp,fb,M,hf⟩:=B4.pa.cD hv;have hi:=(vx.mp hp).1;have a5:=J.1;rw[vi]at a5;erw[Jo (S':=[none,none]) rfl ?_];erw[JK (cw.of M) ?_];exists dt ?_;exists#[by rw[vt];lia,f++[fb],by rw[vj];rfl,?_,rfl];rw[take_snoc hp];rwa[bX.snoc J hf]
 rintro F o ⟨f,rfl,J,rfl⟩;rw[vt,ac,v5]at J;have fl:=J.1;erw[by rw[vt];lia,?_];sleep 5;exists#[a,_,m,_,rfl,s5 _ _ a4,T.jP,T.JV,vD (Jy _ _ _) (vD (Nat.succ_le_succ (Jy _ _ _)) nofun),?_];have n5:p5≠a:=λz=>by rw[z,a4]at hp5;cases hp5
 generalize e6:upd H5 a _=H6;have k6:∀c u,c≠a->H5 c⊂u->H6 c⊂u:=λc u n h=>e6▸(jh n).trans h
 have a6:=Qc e6;clear e6;have z6:bU S H6:=λc u h=>k6 _ _ (n0 h) (s5 _ _ (z4 _ _ h))
 exists#[b,pl,pp,g,C,R,ps,gs,hs,rfl,X.same z6,N.s,λl7 H7 s7 a1 e7=>?_];exists#[a,_,m,_,rfl,s7 _ _ a6,T.jP,T.Jd,Ap,?_];have n7:l7≠a:=λz=>by rw[z,a6]at a1;cases a1
 generalize e8:upd H7 a _=H8;have k8:∀c u,c≠a->H7 c⊂u->H8 c⊂u:=λc u n h=>e8▸(jh n).trans h
 have a8:=Qc e8;clear e8;have z8:bU S H8:=λc u h=>k8 _ _ (n0 h) (s7 _ _ (z6 _ _ h))
 exists#[b,pl,pp,g,C,R,ps,rfl,X.same z8,W,λl9 as E Y U a3 e9 na lE aE oE=>?_];exists#[a,_,m,_,rfl,U _ _ a8,T.jP,T.zJ,Aq,?_];have n9:l9≠a:=λz=>by rw[z,a8]at a3;cases a3
 generalize L:upd Y a _=H10;have O:∀c u,c≠a->Y c⊂u->H10 c⊂u:=λc u n h=>L▸(jh n).trans h
 have k:=Qc L;clear L;have ad:bU S H10:=λc u h=>O _ _ (n0 h) (U _ _ (z8 _ _ h))
 have w7:∀c u,c≠a->H7 c⊂u->H10 c⊂u:=λc u n h=>O _ _ n (U _ _ (k8 _ _ n h))
 exists#[a,_,m,_,_,rfl,k,T.jP,T.Jd,(Jl ∅).trans Za,?_];exists#[b,pl,pp,l7,g,C,R,ps,gs,rfl,X.same ad,W,w7 _ _ n7 e7,gl,λy l j D G a7 a0 _=>?_];exists#[a,_,m,_,rfl,D _ _ k,T.jP,T.qI,Ar,?_];have a9:y≠a:=λz=>by rw[z,k]at G;cases G
 have r:∀c u,c≠a->j c⊂u->upd j a (.ins t.jF m (iV #[d,p3,p5,l7,l9,y,f,as,l])) c⊂u:=λc u n h=>(jh n).trans h
 have u9:∀c u,c≠a->Y c⊂u->upd j a (.ins t.jF m (iV #[d,p3,p5,l7,l9,y,f,as,l])) c⊂u:=λc u n h=>r _ _ n (D _ _ (O _ _ n h))
 have u7:∀c u,c≠a->H7 c⊂u->_⊂u:=λc u n h=>u9 _ _ n (U _ _ (k8 _ _ n h))
 have u5:∀c u,c≠a->H5 c⊂u->_⊂u:=λc u n h=>u7 _ _ n (s7 _ _ (k6 _ _ n h))
 have u3:∀c u,c≠a->H3 c⊂u->_⊂u:=λc u n h=>u5 _ _ n (s5 _ _ (k4 _ _ n h))
 have u1:∀c u,c≠a->H1 c⊂u->_⊂u:=λc u n h=>u3 _ _ n (s3 _ _ (k2 _ _ n h))
 have nq:∀{c:Addr} {xs:N2},j c⊂.lst xs->c≠a:=λh z=>by rw[z,D _ _ k]at h;cases h
 have ab:∀{c:Addr} {xs:N2},j c⊂.tup xs->c≠a:=λh z=>by rw[z,D _ _ k]at h;cases h
 have nt:∀{c:Addr} {xs:N2},Y c⊂.tup xs->c≠a:=λh z=>by rw[z,U _ _ a8]at h;cases h
 have nl:∀{c:Addr} {xs:N2},Y c⊂.lst xs->c≠a:=λh z=>by rw[z,U _ _ a8]at h;cases h
 have aa:∀{c:Addr} {xs:N2},H4 c⊂.tup xs->c≠a:=λh z=>by rw[z,a4]at h;cases h
 exact q #[d,p3,p5,l7,l9,y,f,as,l] E _ (λc u n h=>u1 _ _ n (s1 _ _ h)) #[#[m,jA],u1 _ _ nd ed,u3 _ _ n3 t3,u5 _ _ n5 t5,bX.mono J λc p h=>cf.put (λb xs hb=>u5 _ _ (aa hb) (s5 _ _ hb)) h,u7 _ _ n7 e7,u9 _ _ n9 e9,lE,
  bX.mono aE λc e ⟨bs,Z,h2⟩=>#[bs,u9 _ _ (nl Z) Z,bX.mono h2 λb q h=>u9 _ _ (nt h) h],oE,r _ _ a9 a7,bX.mono a0 λc e ⟨bs,Z,h2⟩=>#[bs,r _ _ (nq Z) Z,bX.mono h2 λb q h=>r _ _ (ab h) h]]
def YU:8<*t.JC t.qh ["self","box"] (iH t.jE t.jF):=by
 specialize T.Y4.ok YW;let⟨m,a,bx,l,f,g,x,G,Y,O,hs,rfl,R,et,el,la,ef,dr,Bx,N,q⟩:=h;erw[_,#v["R©Ǘɶɷ7O0ɸɹ^e?Vɺɻ#©=ȋ@Z4©)"],?_]
 rotate_right 200
 have nm:∀{c:Addr} {xs:N2},H c⊂.lst xs->c≠m:=λh z=>by rw[z,R]at h;cases h
 exists#[bx,l,f,g,x,G,Y,rfl,et,el,la,ef,dr,Bx,λb pl pp I L p B1 _ _ _=>?_];ac_nf;intro o y k D ne;have J:bU L (upd (upd L y (.own o)) o (.ins t.jF y [])):=λc u h=>(jh (je h k)).trans ((jh (je h D)).trans h)
 have d:=p _ _ R;erw[o,y,b,pl,pp,g,I,G,_,O,hs,rfl,jA,B1.same J,N,λz E j S Z=>#[rfl,?_]];have i:m≠o:=je d k;have e:j m⊂(.ins t.jE a []):=S _ _ i (J _ _ d);have F:∀c u,H c⊂u->j c⊂u:=λc u h=>S _ _ (je (p _ _ h) k) (J _ _ (p _ _ h))
 exists#[m,_,a,[],rfl,e,T.jL,T.Jw,(by show 0<1000;decide),?_];generalize B:upd j m _=H4;have v:=Qc B;have U:∀c u,c≠m->j c⊂u->H4 c⊂u:=λc u n h=>B▸(jh n).trans h
 clear B;have r:=Z.but e i U;let⟨dz,oz⟩:=r.ob;exists#[m,_,a,_,_,rfl,v,T.jL,T.Jw,Za,?_];exists#[o,_,dz,_,_,rfl,oz,T.jP,T.Jd,zP,?_];exists ck (bV.of r.hs) (C4 N.ne N.s.gl) ?_;exists#[m,_,a,_,rfl,v,T.jL,T.qH,(by show 1<1000;decide),?_];generalize C:upd H4 m _=H5;have M:=Qc C;have W:∀c u,c≠m->H4 c⊂u->H5 c⊂u:=λc u n h=>C▸(jh n).trans h
 clear C;exists#[m,_,a,_,rfl,M,T.jL,T.Jc,(by show 2<1000;decide),?_];have X:∀c u,c≠m->H5 c⊂u->upd H5 m (.ins t.jE a (lA o (O∘(⇑(fI G Y)-1)) 0)) c⊂u:=λc u n h=>(jh n).trans h
 erw[q o z E _ (λc u n h=>X _ _ n (W _ _ n (U _ _ n (F _ _ h)))) (none_of p k) #[#[a,jA],(r.but v i W).but M i X,i]]
def Fs:1<*t.zU t.zX ["pieces","sizes","gone"] (ec):=by
 specialize T.Y3.F.ok qK;let⟨l,s0,b,bs,O,a,rfl,S,W,U,q8,ok,t1,t2,q⟩:=h;erw[_,#v["ă1í2%Ðĳ5íĴ.í<ílTŏ+'ÛEíķƐ$ƑƒĄÆ°'+Ü*(fíŽĒ-(Ą°°'+Ė-Ü*Ők&Ä¶*+-K&"],?_]
 rotate_right 306
 have B:∀j,j<⇑a->a[j]?⊂(a∘j):=λj h=>by
  rw[vy,vz h];rfl
 have bl:=W.1;exists#[va _,?_];walk_at"f p hp H1 s1 e1";have Y:∀{c u},H c⊂u->c≠p:=λh=>je h hp
 exists#[l,rfl,#[_,bV.of (s1 _ _ S)],?_];refine JD (xs:=bs.map V.ref) (λi R m=>sQ λ(F G I J L:N3) (d:L7)=>fq (R=[↥l,↥s0,~~~b,↥p,F,G,I,J,L]) (bU H m) (m p⊂(.lst (d.map V.ref))) (⇑d<=i/\nP m d (fj a b (O.take i))))
  #[_,_,_,_,_,[],rfl,s1,e1,vb _,.nil] ?_ ?_ ?_
 .rintro i R m _ ⟨F,G,I,J,L,d,rfl,k,e,X,n⟩;rwa[bV.of (k _ _ S)]
 .rintro i v R m hv ⟨F,G,I,J,L,d,rfl,k,e,X,n⟩;let⟨c,x,rfl,N,hc⟩:=W.cD hv;have hi:=(vx.mp N).1;have C:=ok x (vm N);have D:=C;let⟨Z,g1,g2,n1,n2,b1,b2⟩:=D;have g:fj a b (O.take (i+1))=fj a b (O.take i)++(dE a b x).toList:=by
   rw[take_snoc N];unfold fj;rw[List.filterMap_append];congr 1
  erw[MH (cw.of (k _ _ hc)) ?_];exists cA (λr=>?_) (λr=>?_)
  .have a1:=Eb C r;exists ck (bV.of (k _ _ U)) (jS (j:=x.1) (by rw[vv,B _ Z];rfl)) ?_;ac_nf;have eo:(if x.2.1<(b-x.2.2)/a∘x.1 then x.2.1 else(b-x.2.2)/a∘x.1)=ov a b x:=rfl;have a0:(if(b-x.2.2)/a∘x.1>x.2.1 then x.2.1 else(b-x.2.2)/a∘x.1)=ov a b x:=rfl;erw[_,_,rfl,?_];rw[eo];exists cA (λM=>?_) (λM=>?_)
   .exists ck (bV.of (k _ _ U)) (jS (j:=x.1) (by rw[vv,B _ Z];rfl)) ?_;exists#[.inl #[rfl,_,bV.of e],?_];exists#[ua,?_];walk_at"f 2 e";exists#[p,_,_,rfl,rfl,s2 _ _ e,by rw[vt];lia,?_];have o:p2≠p:=λz=>by rw[z,s2 _ _ e]at e2;cases e2
    erw[_,_,_,_,_,d++[p2],rfl,λc u h=>(jh (Y h)).trans (s2 _ _ (k _ _ h)),by rw[jA,vj];rfl,by rw[vn];show ⇑d+1<=_;lia,?_];have f:dE a b x⊂(x.1,x.2.2,ov a b x,some (b-x.2.2-ov a b x*a∘x.1)):=by
     unfold dE;rw[vd r,vd M]
    rw[g,f];erw[bX.snoc (bX.mono n λc y h=>?_) ((jh o).trans e2)];rwa[(jh (λz=>by rw[z,e]at h;cases h)).trans (s2 _ _ h)]
   .exists#[.inl #[rfl,_,bV.of e],?_];exists#[ua,?_];walk_at"f 2 e";exists#[p,_,_,rfl,rfl,s2 _ _ e,by rw[vt];lia,?_];have o:p2≠p:=λz=>by rw[z,s2 _ _ e]at e2;cases e2
    erw[_,_,_,_,_,d++[p2],rfl,λc u h=>(jh (Y h)).trans (s2 _ _ (k _ _ h)),by rw[jA,vj];rfl,by rw[vn];show ⇑d+1<=_;lia,?_];have f:dE a b x⊂(x.1,x.2.2,ov a b x,none):=by
     unfold dE;rw[vd r,vc M]
    rw[g,f];erw[bX.snoc (bX.mono n λc y h=>?_) ((jh o).trans e2)];rwa[(jh (λz=>by rw[z,e]at h;cases h)).trans (s2 _ _ h)]
  .exists#[_,_,_,_,_,d,rfl,k,e,⋯,?_];have f:dE a b x=none:=by
    unfold dE;rw[vc r]
   rw[g,f];show nP m d (_++[]);rw[append_nil];rwa[n]
 rintro S' m ⟨F,G,I,J,L,d,rfl,k,e,X,n⟩;rw[vt,bl,v5]at n;ac_nf;rwa[q p d m k hp e n]
def GP:2<*t.Wa t.Wi ["pieces","sizes","gone"] (g5):=by
 specialize T.Cq.F.ok zR;let⟨l,S,n,bs,C,gs,rfl,el,hq,Y,q8,ok,t1,t2,q⟩:=h;erw[_,#v["ă1ģ2ĊǘǙ%'ÐŰ5ģ.ģĴ<ģEģBÓÙ+M&ÚÜ*lTɼ-Ők&Ú-&"],?_]
 rotate_right 305
 have a0:∀j,j<⇑gs->gs[j]?⊂(gs∘j):=λj h=>by
  rw[vy,vz h];rfl
 exists#[va _,?_];walk_at"f p hp H1 s1 e1";have np:∀{c u},H c⊂u->c≠p:=λh=>je h hp
 exists#[l,S,n,bs,C,gs,rfl,s1 _ _ el,bX.mono hq λc x h=>s1 _ _ h,s1 _ _ Y,q8,ok,t1,t2,λl2 W H2 s2 J e2 G=>?_];have a4:=Du (gs:=gs) (t:=n) C;have U:=G.1;have a1:l2≠p:=λz=>by rw[z,e1]at J;cases J
 have D:=s2 _ _ e1;exists#[l2,rfl,#[_,bV.of e2],?_];refine JD (xs:=W.map V.ref) (λi σ f=>nM λ(M N O R:N3) (e:L7)=>fq (σ=[↥l,↥S,~~~n,↥p,M,N,O,R]) (∀c u,c≠p->H2 c⊂u->f c⊂u) (f p⊂(.lst (e.map V.ref))) (⇑e<=2*i/\fk f e (((fj gs n C).take i).flatMap (dW gs))))
  #[_,_,_,_,[],rfl,λc u _ h=>h,D,vb _,.nil] ?_ ?_ ?_
 .rintro i σ f _ ⟨M,N,O,R,e,rfl,m,g,la,B⟩;rwa[bV.of (m _ _ a1 e2)]
 .rintro i v σ f hv ⟨M,N,O,R,e,rfl,m,g,la,B⟩;let⟨c,y,rfl,hy,b⟩:=G.cD hv;have hi:=(vx.mp hy).1;have a2:c≠p:=λz=>by rw[z,D]at b;cases b
  let⟨x,hx,ex⟩:=kQ (vm hy);have y1:y.1<⇑gs:=by rw[Ka ex];rwa[(ok x hx).1]
  have k:((fj gs n C).take (i+1)).flatMap (dW gs)=((fj gs n C).take i).flatMap (dW gs)++dW gs y:=by
   rw[take_snoc hy,flatMap_append,flatMap_cons,List.flatMap_nil,append_nil]
  have Z:f S⊂(.lst (gs.map V.int)):=m _ _ (np Y) (s2 _ _ (s1 _ _ Y));erw[Bi (cw.of (m _ _ a2 b)) ?_];exists#[λS' H3=>dH λ(a:L7)=>fq (S'=[↥l,↥S,~~~n,↥p,some (.int (y.1:Nat)),~~~y.2.1,~~~y.2.2.1,some (oY y.2.2.2)]) (∀c u,c≠p->f c⊂u->H3 c⊂u) (H3 p⊂(.lst (a.map V.ref))) (⇑a<=2*i+1/\fk H3 a (((fj gs n C).take i).flatMap (dW gs)++(if 0<y.2.2.1 then[(y.1,gs∘y.1)]else[]))),?_,?_]
  rotate_left
  .exists cA (λX=>?_) (λX=>?_)
   .exists#[.inl #[rfl,_,bV.of g],?_];exists ck (bV.of Z) (jS (j:=y.1) (by rw[vv,a0 _ y1];rfl)) ?_;exists#[uc,?_];walk_at"f p2 hp2 H3 s3 e3";exists#[p,_,_,rfl,rfl,s3 _ _ g,by rw[vt];lia,?_];have o:p2≠p:=λz=>by rw[z,s3 _ _ g]at e3;cases e3
    erw[e++[p2],rfl,λc u b h=>(jh b).trans (s3 _ _ h),by rw[jA,vj];rfl,by rw[vn];show ⇑e+1<=_;lia,?_];rw[vd X];erw[bX.snoc (bX.mono B λc y h=>?_) ((jh o).trans e3)];rwa[(jh (λz=>by rw[z,g]at h;cases h)).trans (s3 _ _ h)]
   .exists#[e,rfl,λc u _ h=>h,g,⋯,?_];rw[vc X,append_nil];rwa[B]
  rintro S' H3 ⟨a,rfl,L,d,a3,I⟩;have F:dW gs y=(if 0<y.2.2.1 then[(y.1,gs∘y.1)]else[])++(match y.2.2.2 with | some r=>[(y.1,r)] | none=>[]):=rfl;cases er:y.2.2.2 with
  | none=>
   exists#[rfl,_,rfl,?_];erw[fe (by simp[oY]) ?_];exists#[_,_,_,_,a,rfl,λc u b h=>L _ _ b (m _ _ b h),d,⋯,?_];rw[k,F,er,append_nil];rwa[I]
  | some r=>
   exists#[rfl,_,rfl,?_];erw[lR (by simp[oY]) ?_];exists#[.inl #[rfl,_,bV.of d],?_];exists#[uc,?_];walk_at"f p2 hp2 H4 s4 e4";exists#[p,_,_,rfl,rfl,s4 _ _ d,by rw[vt];lia,?_];have o:p2≠p:=λz=>by rw[z,s4 _ _ d]at e4;cases e4
   erw[_,_,_,_,a++[p2],rfl,λc u b h=>(jh b).trans (s4 _ _ (L _ _ b (m _ _ b h))),by rw[jA,vj];rfl,by rw[vn];show ⇑a+1<=_;lia,?_];rw[k,F,er,<-List.append_assoc];erw[bX.snoc (bX.mono I λc y h=>?_) ((jh o).trans e4)];rwa[(jh (λz=>by rw[z,d]at h;cases h)).trans (s4 _ _ h)]
 rintro S' f ⟨M,N,O,R,e,rfl,m,g,la,B⟩;rw[vt,U,v5]at B;ac_nf;rwa[q p e f (λc u h=>m _ _ (np h) (s2 _ _ (s1 _ _ h))) hp g B]
def WE:3<*t.qq t.qt ["self","beat"] (eM t.jF):=by
 specialize T.W1.ok JF;let⟨a,z,O,ps,gs,hs,E,t0,rfl,A,N,t1,t2,q⟩:=h;erw[_,#v["BXǚɽŏŏ)#¿Z4ġÛ/ïĆ@1ï;ĵ5ïª3×@#ǉŷɾ*Ǜ$6.ïǏǌɿʀʁ*4ƱĒI¿IĘM&(Ȍʂʃʄ*ǜ{ʅʆ¿I@IvZ4Î2¿IY<ïEï4Ö-'+3'&"],?_]
 rotate_right 206
 have W:=N.s.w;have gl:=N.s.gl;have ne:=N.ne;have b1:=W.nF;have lE:=A.el;have M8:∀i,i<⇑ps->⇑(hs.getD i [])<=8:=λi hi=>Dy W N.hl N.m (wp N.s N.hl hi)
 have ad:eZ (gs.map V.int) (-1)⊂(.int (gs∘(⇑ps-1))):=C4 ⋯ (by rw[gl]);have aQ:∀j,j<⇑ps->gs[j]?⊂(gs∘j):=λj h=>N.Bv h
 let⟨dx,ob⟩:=A.ob;exists cA (λ_=>?_) (λc=>uf t1 c);exists#[a,_,dx,_,_,rfl,ob,T.jP,T.Jd,zP,?_];exists ck (bV.of A.hs) (ad) ?_;exists mB (λz=>uf t2 z) (λ_=>?_);exists#[a,_,dx,_,_,rfl,ob,T.jP,T.Q6,Gb,?_];exists#[z.f,_,rfl,.inl (bV.of A.hf),?_];walk_at"f 1 e";exists#[va _,?_];walk_at"f 2 e";have aj:=s1.trans s2;exists#[a,_,dx,_,_,rfl,aj _ _ ob,T.jP,T.Jd,zP,?_];exists#[_,_,rfl,.inl #[_,bV.of (aj _ _ A.hs),rfl],?_];rw[vt,gl];exists#[uc,?_];walk_at"f 3 e";exists#[ud,?_];walk_at"f 4 e";rw[show((⇑ps:Nat):Int)-1=((⇑ps-1:Nat):Int) by lia]at e3;have aI:=aj.trans s3;have aW:=aI.trans s4;have af:p1≠p2:=je e1 hp2;have ag:p1≠p4:=je (s3 _ _ (s2 _ _ e1)) hp4;have ah:p2≠p4:=je (s3 _ _ e2) hp4;have m1:∀{c u},H c⊂u->c≠p1:=λh=>je h hp1
 have m2:∀{c u},H c⊂u->c≠p2:=λh=>je (s1 _ _ h) hp2
 have m4:∀{c u},H c⊂u->c≠p4:=λh=>je (aI _ _ h) hp4
 have aH:=N.nodes M8 (i:=⇑ps-1) (t:=t0) ⋯ t1;have aK:∀h∈O.map (·.2),0<=h/\h<=10^18:=λh hh=>by
  let⟨q0,aS,rfl⟩:=vK.mp hh;rwa[N.vX q0 aS]
 exists#[λm σ B=>oO λ(o5 J L:N3) (d g:L7) (D P S:L3)=>mu (σ=[↥a,~~~t0,↥p1,↥p2,↥p4,o5,J,L]) (sY O ps gs E t0 H B p1 p2 p4 d g D P S) (P++S.reverse.flatMap (λx=>mF ps gs x.1 x.2)=mF ps gs (⇑ps-1) t0/\m=(S.map λx=>nodes ps gs x.1 x.2).sum),
  #[_,none,none,none,[],[p3],[],[],[(⇑ps-1,t0)],rfl,#[aW,s4 _ _ (s3 _ _ (s2 _ _ e1)),s4 _ _ (s3 _ _ e2),e4,.nil,bX.snoc (as:=[]) (xs:=[]) .nil (s4 _ _ e3),by simp,λx hx=>by rw[vo.mp hx];rwa[by show ⇑ps-1<_;lia,t1],rfl,(λx hx=>nomatch hx),#v[aH],by show(O.map (·.2)).length=_;rw[vt],aK],by simp,rfl],?_]
 rintro m σ B ⟨o5,J,L,d,g,D,P,S,rfl,Sc,a0,rfl⟩;let⟨sm,am,ao,eT,gP,gT,G,hS,hP,bP,aM,ll,hb⟩:=Sc;have a7:⇑S<=(S.map λx=>nodes ps gs x.1 x.2).sum:=EB λx _=>Xb (ps:=ps) (gs:=gs) x.1 x.2
 have pl:=gP.1;have tl:=gT.1;exists#[_,.inl #[_,bV.of eT,rfl],?_];rcases List.eq_nil_or_concat S with rfl | ⟨S0,x,rfl⟩
 .have et:g=[]:=List.length_eq_zero_iff.mp tl;subst et;erw[gC ?_];ac_nf;rw[show([]:L3).reverse.flatMap (λx=>reach ps gs x.1 x.2)=[]from rfl,append_nil]at G;subst G;have b0:([].map λx:Nat×Int=>nodes ps gs x.1 x.2).sum=0:=rfl;erw[uc,?_];walk_at"f 5 e";rwa[q p5 p1 p2 d P H5 (sm.trans s5) hp1 (none_of s1 hp2) e5 (s5 _ _ am) ll hb (s5 _ _ ao) af (bX.mono gP λc y h=>s5 _ _ h) ⋯ bP hP #v[a0]]
 rw[List.concat_eq_append]at *;let⟨b,l,rfl,ay,aB⟩:=bX.last gT;rw[vj]at eT|-;erw[lR (by simp) ?_];let⟨x1,x2⟩:=hS x (mem_append_right _ vq);have aA:∀y∈S0,y.1<⇑ps/\0<=y.2:=λy hy=>hS y (mem_append_left _ hy)
 rw[List.reverse_append,flatMap_append,vj,sum_append]at *;have aZ:=Xb (ps:=ps) (gs:=gs) x.1 x.2;have au:([x].map λx:Nat×Int=>nodes ps gs x.1 x.2).sum=nodes ps gs x.1 x.2:=by simp
 have aa:([x].reverse.flatMap λx=>reach ps gs x.1 x.2)=reach ps gs x.1 x.2:=by simp
 rw[au]at a7 aM|-;have b2:S0.length<=5000:=by rw[vn]at a7;lia
 have b3:=ay.1;have X:([x].reverse.flatMap λx=>mF ps gs x.1 x.2)=mF ps gs x.1 x.2:=by simp
 rw[aa]at G;rw[X]at a0;refine#[λσ B=>oO λ(o5 J L:N3) (d g:L7) (D P S:L3)=>mu (σ=[↥a,~~~t0,↥p1,↥p2,↥p4,o5,J,L]) (sY O ps gs E t0 H B p1 p2 p4 d g D P S) (P++S.reverse.flatMap (λx=>mF ps gs x.1 x.2)=mF ps gs (⇑ps-1) t0/\(S.map λx=>nodes ps gs x.1 x.2).sum<(S0.map λx=>nodes ps gs x.1 x.2).sum+nodes ps gs x.1 x.2),
  (by rintro S' B ⟨o5,J,L,d,g,D,P,S,h1,h2,hq,h3⟩;rwa[_,h3,o5,J,L,d,g,D,P,S,h1,h2,hq,rfl]),?_]
 exists#[.inl #[rfl,_,bV.of eT],?_];erw[p4,_,.ref l,rfl,rfl,eT,by simp,?_];rw[show((b.map V.ref)++[l].map V.ref).dropLast=b.map V.ref by simp];have a1:∀{c:Addr} {xs:N2},B c⊂.tup xs->c≠p4:=λh z=>by rw[z,eT]at h;cases h
 have s5:bU H (upd B p4 (.lst (b.map V.ref))):=λc u h=>(jh (m4 h)).trans (sm _ _ h)
 have a8:upd B p4 (.lst (b.map V.ref)) p4⊂(.lst (b.map V.ref)):=jA;have U:=(jh (o:=HO.lst (b.map V.ref)) ag).trans am;have C:=(jh (o:=HO.lst (b.map V.ref)) ah).trans ao;have ab:fk (upd B p4 (.lst (b.map V.ref))) d P:=bX.mono gP λc y h=>(jh (a1 h)).trans h
 have ac:fk (upd B p4 (.lst (b.map V.ref))) b S0:=bX.mono ay λc y h=>(jh (a1 h)).trans h
 have n:=(jh (o:=HO.lst (b.map V.ref)) (a1 aB)).trans aB;generalize upd B p4 (.lst (b.map V.ref))=H5 at s5 a8 U C ab ac n|-;clear a1;have aP:H5 z.s⊂(.lst (gs.map V.int)):=s5 _ _ A.hs;have aF:=s5 _ _ ob;exists cg n ?_;exists#[a,_,dx,_,_,rfl,aF,T.jP,T.Jd,zP,?_];exists cg n ?_;exists ck (bV.of aP) (jS (j:=x.1) (by rw[vv,aQ _ x1];rfl)) ?_;ac_nf;obtain⟨p,hp⟩:∃p,ps[x.1]?⊂p:=#[_,vz x1]
 have ar:cH ps gs x.1=cW gs p.2 (cM ps p.2):=by unfold cH;rw[hp]
 erw[cA (λc1=>?_) (λc1=>?_)]
 .have a2:iW gs x=false:=vH ⋯;have aR:(ps.map λp=>cW gs p.2 (cM ps p.2))[x.1]?⊂(cH ps gs x.1):=by rw[vv,hp,ar];rfl
  let⟨al,aO,bs,Z,hq⟩:=A.pa.get aR;have aX:=(N.g x1).2;have aU:⇑(cH ps gs x.1)<=8:=by rw[ar];rwa[Cn (N.i8 hp)]
  have wl:=Lo (gs:=gs) (t:=x.2) (cH ps gs x.1);exists#[.inl #[rfl,_,bV.of C],?_];exists#[p2,_,_,rfl,rfl,C,by rw[vt];lia,?_];have ai:∀{c:Addr} {xs:N2},H5 c⊂.tup xs->c≠p2:=λh z=>by rw[z,C]at h;cases h
  have s6:bU H (upd H5 p2 (.lst (d.map V.ref++[.ref l]))):=λc u h=>(jh (m2 h)).trans (s5 _ _ h)
  have ap:upd H5 p2 (.lst (d.map V.ref++[.ref l])) p2⊂(.lst ((d++[l]).map V.ref)):=by rw[jA,vj];rfl
  have an:=(jh (o:=HO.lst (d.map V.ref++[.ref l])) af).trans U;have a9:=(jh (o:=HO.lst (d.map V.ref++[.ref l])) ah.symm).trans a8;have R:=(jh (o:=HO.lst (d.map V.ref++[.ref l])) (ai n)).trans n;have av:fk (upd H5 p2 (.lst (d.map V.ref++[.ref l]))) (d++[l]) (P++[x]):=bX.snoc (bX.mono ab λc y h=>(jh (ai h)).trans h) R;have az:fk (upd H5 p2 (.lst (d.map V.ref++[.ref l]))) b S0:=bX.mono ac λc y h=>(jh (ai h)).trans h
  generalize upd H5 p2 (.lst (d.map V.ref++[.ref l]))=H6 at s6 ap an a9 R av az|-;exists#[.inl #[rfl,_,bV.of a9],?_];exists#[a,_,dx,_,_,rfl,s6 _ _ ob,T.jP,T.qI,Wm,?_];exists cg R ?_;exists ck (bV.of (s6 _ _ A.hp)) (Zw (i:=(x.1:Int)) ⋯ aO) ?_;exists#[a,_,dx,_,_,rfl,s6 _ _ ob,T.jP,T.Jd,zP,?_];exists cg R ?_;exists#[al,z.s,x.2,bs,cH ps gs x.1,gs,rfl,s6 _ _ Z,bX.mono hq λc y h=>s6 _ _ h,s6 _ _ A.hs,aU,λq hq=>N.m9 hq,x2,⋯,λlw aJ H7 s7 aY ew hw=>?_];exists#[rfl,lw,_,rfl,bV.of ew,?_];walk_at"f lr hlr H8 s8 e8";have r:=s7.trans s8;have aq:=r _ _ a9;have b4:=hw.1;erw[p4,lr,_,_,rfl,rfl,aq,e8,by rw[vt,length_reverse,vt];lia,?_];have a5:∀{c:Addr} {xs:N2},H8 c⊂.tup xs->c≠p4:=λh z=>by rw[z,aq]at h;cases h
  have aw:=λ(c:Addr) (y:Nat×Int) (h:H6 c⊂(.tup [.int (y.1:Nat),.int y.2]))=>(jh (o:=HO.lst (b.map V.ref++(aJ.map V.ref).reverse)) (a5 (r _ _ h))).trans (r _ _ h)
  have aL:∀y∈P++[x],y.1<⇑ps/\0<=y.2/\y.2<gs∘y.1:=λy hy=>by
   rcases vh.mp hy with h | h
   .exact bP y h
   .rw[vo.mp h];rwa[x1,x2,c1]
  erw[_,_,_,d++[l],b++aJ.reverse,if d0 ps gs x=true then D++[x]else D,P++[x],S0++(de gs x.2 (cH ps gs x.1)).reverse,rfl,#[λc u h=>(jh (m4 h)).trans (r _ _ (s6 _ _ h)),?_,(jh ah).trans (r _ _ ap),by rw[jA,vj,map_reverse],bX.mono av aw,?_,?_,?_,?_,aL,?_,?_,?_],?_,?_]
  .rw[Wu a2];rwa[(jh ag).trans (r _ _ an)]
  .exact bX.app (bX.mono az aw) (bX.mono (bX.rev hw) λc y h=>(jh (a5 (s8 _ _ h))).trans (s8 _ _ h))
  .rw[List.reverse_append,List.reverse_reverse,flatMap_append,<-G];by_cases lf:d0 ps gs x=true
   .have c2:cH ps gs x.1=[]:=List.isEmpty_iff.mp lf;rw[vd lf,c2,Jb (.inr c2),List.append_assoc];rfl
   .have c2:¬(gs∘x.1<=x.2\/cH ps gs x.1=[]):=λh=>h.elim ⋯ λe=>lf (List.isEmpty_iff.mpr e)
    rw[vc lf,JE W c2]
  .intro y hy;rcases vh.mp hy with h | h
   .exact aA y h
   .have h:=mem_reverse.mp h;have:=Qe W h;rwa[⋯,km (λq hq=>N.m9 hq) h]
  .rw[filter_append,hP];by_cases lf:d0 ps gs x=true
   .rw[vd lf,filter_append,filter_cons_of_pos lf,filter_cons_of_pos (by rw[a2];rfl)];rfl
   .rw[vc lf,filter_cons_of_neg lf];rwa[append_nil _]
  .have:=Xa W (i:=x.1) (t:=x.2) c1;rw[vj,sum_append,map_reverse,List.sum_reverse,vn];show ⇑P+1+_<=_;lia
  .rw[Wu a2];rwa[ll]
  .rw[Wu a2];rwa[hb]
  .rw[List.reverse_append,List.reverse_reverse,flatMap_append,<-a0,uZ W (i:=x.1) (t:=x.2) ⋯,List.append_assoc];rfl
  .have:=Xa W (i:=x.1) (t:=x.2) c1;rw[vj,sum_append,map_reverse,List.sum_reverse];lia
 .have a3:iW gs x=true:=vG ⋯;have hE:E[x.1]?⊂(E.getD x.1 []):=by rw[vy,vz ⋯];rfl
  let⟨ae,aN,bs,Z,aG⟩:=A.ea.get hE;have ak:=kF W ⋯ A.eo x.1;have eb:=Mx N lE A.eo x1;have a4:=s5 _ _ Z;exists#[a,_,dx,_,_,rfl,aF,T.jP,T.zJ,G6,?_];exists cg n ?_;exists ck (bV.of (s5 _ _ A.hl)) (Zw (i:=(x.1:Int)) ⋯ aN) ?_;erw[ae,rfl,#[_,bV.of a4],?_];have aV:=aG.1;have aT:ae≠p1:=m1 Z;refine JD (xs:=bs.map V.ref) (λk σ H7=>fW λ(J L:N3)=>fq (σ=[↥a,~~~t0,↥p1,↥p2,↥p4,↥l,J,L]) (∀c u,c≠p1->H5 c⊂u->H7 c⊂u) (H7 p1⊂(.lst ((cx ((E.getD x.1 []).take k) (mL O gs E D)).map V.int))) (⇑(cx ((E.getD x.1 []).take k) (mL O gs E D))=⇑O/\(∀h∈cx ((E.getD x.1 []).take k) (mL O gs E D),0<=h/\h<=10^18)))
   #[_,_,rfl,λc u _ h=>h,U,ll,hb] ?_ ?_ ?_
  .rintro k σ H7 _ ⟨J,L,rfl,f,F,_⟩;rwa[bV.of (f _ _ aT a4)]
  .rintro k v σ H7 hv ⟨J,L,rfl,f,F,I,Y⟩;let⟨c',y,rfl,hy,aC⟩:=aG.cD hv;have aD:=vm hy;have yb:=ak y aD;have yh:=eb y aD;erw[JK (cw.of (f _ _ (m1 aC) (s5 _ _ aC))) ?_];ac_nf;have M:cx ((E.getD x.1 []).take (k+1)) (mL O gs E D)=(cx ((E.getD x.1 []).take k) (mL O gs E D)).set y.1.toNat y.2:=by
    unfold cx;rw[take_snoc hy,foldl_append];rfl
   erw[p1,_,_,y.1.toNat,rfl,rfl,F,E6 yb.1 (by rw[vt,I];rwa[yb.2]),?_];erw[_,_,rfl,λc u hc h=>(jh hc).trans (f _ _ hc h),jA.trans ?_,by rw[M,length_set];rwa[I],λh hh=>?_]
   .rw[M,map_set]
   .rw[M]at hh;rcases List.mem_or_eq_of_mem_set hh with z | z
    .exact Y h z
    .rw[z];rwa[yh]
  rintro S' H7 ⟨J,L,rfl,f,F,I,Y⟩;rw[vt,aV,v5]at F I Y;have aE:∀{c:Addr} {xs:N2},H5 c⊂.tup xs->c≠p1:=λh z=>by rw[z,U]at h;cases h
  have a6:gs∘x.1<=x.2:=⋯
  erw[_,_,_,d,b,D++[x],P,S0,rfl,#[λc u h=>f _ _ (m1 h) (s5 _ _ h),?_,f _ _ af.symm C,f _ _ ag.symm a8,bX.mono ab λc y h=>f _ _ (aE h) h,bX.mono ac λc y h=>f _ _ (aE h) h,?_,aA,?_,bP,⋯,?_,?_],by rw[<-a0,WK a6,nil_append],⋯]
  .rw[Wv a3];rwa[F]
  .rw[<-G,Jb (.inl a6),List.append_assoc]
  .rw[hP,filter_append,filter_cons_of_neg (by rw[a3];decide)];rwa[(append_nil _).symm]
  .rw[Wv a3];rwa[I]
  .rw[Wv a3];rwa[Y]
def kT:4<*t.qR t.qV ["self","beat"] (g6 t.jF):=by
 specialize T.Ko.ok JQ;let⟨a,z,ls,j,gs,hs,E,t0,rfl,A,N,t1,t2,q⟩:=h;erw[_,#v["ă/Œ2SĤ%ĥƓƔ7Oƕ^e?#Y1Œ5Œ6.Œ¿&l}zIq*k'I'"],?_]
 rotate_right 204
 let⟨dx,ob⟩:=A.ob;exists#[va _,?_];walk_at"f p1 hp1 H0 s0 e0";exists#[a,dx,_,rfl,s0 _ _ ob,Wl ∅ ∅ ∅ ∅ ∅ ∅,?_];exists#[a,z,ls,j,gs,hs,E,t0,rfl,A.same s0,N,t1,t2,λr l1 l2 as P H1 s1 a0 I C M ll hb h2 a1 gP pl bP hP _=>?_];have F:=FC N hP;have J:=s0.trans s1;have e1:=s1 _ _ e0;have m1:∀{c u},H c⊂u->c≠p1:=λh=>je h hp1
 have n2:l2≠p1:=λe=>by rw[e,e0]at I;cases I
 have al:=gP.1;have wl:∀xs:L3,⇑(xs.flatMap (cO j))<=⇑xs:=λxs=>by
  induction xs with
  | nil=>rwa[vb _]
  | cons x r ih=>
   rw[flatMap_cons,vn,vQ];have:⇑(cO j x)<=1:=by
    unfold cO;split
    .split<;>simp
    .exact va _
   lia
 exists cg C ?_;erw[l2,rfl,#[_,bV.of h2],?_];refine JD (xs:=as.map V.ref) (λi σ m=>iR λ(O R S:N3)=>dG (σ=[↥a,~~~t0,↥p1,O,R,S]) ((∀c u,c≠p1->H1 c⊂u->m c⊂u)/\m p1⊂(.lst (((P.take i).flatMap (cO j)).map V.str))))
  #[_,_,_,rfl,λc u _ h=>h,e1] ?_ ?_ ?_
 .rintro i σ m _ ⟨O,R,S,rfl,o,B⟩;rwa[bV.of (o _ _ n2 h2)]
 .rintro i v σ m hv ⟨O,R,S,rfl,o,B⟩;let⟨c,x,rfl,Y,D⟩:=gP.cD hv;have hi:=(vx.mp Y).1;let⟨x1,x0,x2⟩:=bP x (vm Y);obtain⟨p,X⟩:∃p,j[x.1]?⊂p:=#[_,vz x1]
  let⟨W,U,hf⟩:=A.fo.get X;have l:(P.take (i+1)).flatMap (cO j)=(P.take i).flatMap (cO j)++cO j x:=by
   rw[take_snoc Y,flatMap_append,flatMap_cons,List.flatMap_nil,append_nil]
  have n3:∀{c u},H c⊂u->m c⊂u:=λh=>o _ _ (m1 h) (J _ _ h)
  have nc:c≠p1:=λz=>by rw[z,e1]at D;cases D
  have g:cf m W p.2:=cf.put (λb xs hb=>n3 hb) hf;erw[JK (cw.of (o _ _ nc D)) ?_];exists#[a,_,dx,_,_,rfl,n3 ob,T.jP,T.JV,YJ,?_];exists ck (bV.of (n3 A.ho)) (Zw (i:=(x.1:Int)) ⋯ U) ?_;ac_nf;by_cases d:∃y n,p.2 = .ring y n
  .let⟨y,n,C⟩:=d;rw[C]at g;have G:m W⊂(.tup [.str "ring",.str y,.int n]):=g;have L:cO j x=if x.2=0 then[y]else[]:=by
    unfold cO;rw[X];let⟨pn,pf⟩:=p;have C:pf = .ring y n:=C;subst C;rfl
   erw[cg G ?_];exists cI ?_;exists cA (λc=>?_) (λc=>?_)
   .exists#[.inl #[rfl,_,bV.of B],?_];exists cg G ?_;have:=wl (P.take i);rw[vi]at this;erw[p1,_,_,rfl,rfl,B,by rw[vt];lia,?_];erw[_,_,_,rfl,λc u D h=>(jh D).trans (o _ _ D h),jA.trans ?_];rw[l,L,vd c,vj];rfl
   .exists#[_,_,_,rfl,o,?_];rw[l,L,vc c,append_nil];rwa[B]
  .have L:cO j x=[]:=by
    unfold cO;rw[X];let⟨pn,pf⟩:=p;cases pf with
    | ring y n=>rwa[uf #[y,n,rfl] d]
    | _=>rfl
   have Z:∃k xs,m W⊂(.tup (.str k::xs))/\decide (k=("ring" : Str))=false:=by
    generalize p.2=f at g d;cases f with
    | hold n=>rwa[_,_,g,by trivial]
    | ring y n=>rwa[uf #[y,n,rfl] d]
    | rise y v n=>rwa[_,_,g,by trivial]
    | row j=>let⟨b',M,_⟩:=g;rwa[_,_,M,by trivial]
    | side j=>let⟨b',M,_⟩:=g;rwa[_,_,M,by trivial]
    | again k y=>rwa[_,_,g,by trivial]
   let⟨k,xs,hk,dk⟩:=Z;erw[dY (cw.of hk) (iw) ?_];exists fe dk ?_;exists#[_,_,_,rfl,o,?_];rw[l,L,append_nil];rwa[B]
 rintro S' m ⟨O,R,S,rfl,o,B⟩;rw[vt,al,v5,F]at B;ac_nf;have w1:=wl P;rw[F]at w1;rwa[q p1 m (λc u h=>o _ _ (m1 h) (J _ _ h)) hp1 B ⋯]
def KW:dP P w K mg base (iY P w) 5 t.Jq t.Jr ["self"] (CY t.jE t.jF t.QE):=by
 erw[T.yQ.Oh yL (λl H Q E h=>?_) (λf A a s H l Q E n h=>?_)]
 .let⟨m,k,z,i,j,g,e,rfl,A,q⟩:=h;rfl
 let⟨m,k,z,i,j,g,e,rfl,A,q⟩:=h;erw[_,#v["Ƙʊ´@@ƘʋʌĦ$$$$0ǝʍʎ"],?_]
 erw[G8 (S':=[some _]) rfl ?_];let⟨b,d⟩:=A.ob;erw[MI ?_];exists#[m,_,b,_,_,rfl,d,T.jL,T.Jc,zZ,?_];exists#[m,_,b,_,_,rfl,d,T.jL,T.qH,xJ,?_];exists cA (λZ=>?_) (λc=>uf rfl c);rwa[q]
def wC:5<*t.Jq t.Jr ["self"] (gI t.jE t.jF):=by
 specialize T.yQ.ok yL;let⟨m,j,z,p,r,o,G,E,k,rfl,A,N,J,L,q⟩:=h;erw[_,#v["JX´@@4ġʏ%)ʐĤ@ĥʑʒ7Oʓ^e?@"],?_]
 rotate_right 100
 let⟨a,b⟩:=A.ob;exists#[m,_,a,_,_,rfl,b,T.jL,T.Jc,zZ,?_];exists#[m,_,a,_,_,rfl,b,T.jL,T.qH,xJ,?_];exists cA (λc=>uf c ⋯) (λZ=>?_);exists#[_,rfl,m,_,a,_,_,rfl,b,T.jL,T.Jc,zZ,k,1,rfl,rfl,a,_,b,(by show 3<1000;decide),?_];rw[G5];generalize g:upd H m _=H1;have d:=Qc g;have i:∀c u,c≠m->H c⊂u->H1 c⊂u:=λc u n h=>g▸(jh n).trans h
 have D:∀c,H1 c=none->H c=none:=λc h=>by
  by_cases z:c=m
  .rw[z,d]at h;cases h
  .cases e:H c with
   | none=>rfl
   | some u=>rw[i c u z e]at h;cases h
 clear g;have f:fO t.jE t.jF H1 m j z p r o E (k+1):=#[#[a,d],A.sg.but b A.ne i,A.ne]
 let⟨B,I⟩:=f.sg.ob;exists#[m,_,a,_,_,rfl,d,T.jL,T.Jw,Y6,?_];erw[j,B,_,rfl,I,Wl ∅ ∅ ∅ ∅ ∅ ∅,?_];exists#[m,_,a,_,_,rfl,d,T.jL,T.Jc,zZ,?_];ac_nf;rwa[j,z,p,r,o,G,E,k+1,rfl,f.sg,N,⋯,⋯,λl x v F C Z=>q l x (λc u n h=>v _ _ (i _ _ n h)) (D l F) (f.same v) C]
def wD:1<*t.qz t.qD ["_law_script","_law_k"] (Pr.eO K):=by
 specialize T.JY.F.ok wH;let⟨a,g,k,rfl,b,f,d,q⟩:=h;erw[_,#v["BHĒ#A%=%#C)"],?_]
 rotate_right 200
 exists#[_,_,rfl,.inl #[_,b,rfl],?_];exists cA (λc=>?_) (λc=>?_)
 .ac_nf;rwa[a,_,k,_,rfl,rfl,b,Pr.IB d (by rw[vt]at c;rwa[c]),q]
 .ac_nf;have e:Pr.cell g k=0:=by
   rw[vt]at c;unfold Pr.cell;rw[vy,vT ⋯];rfl
  rw[e]at q;rwa[q]
def W7:1<*t.qS t.qW ["_law_cell","_law_k"] (wW):=by
 erw[T.JL.F.ok xf (λf H Q E h=>?_) (λe A d s H f Q E g h=>?_)]
 .let⟨c,k,rfl,a,b,q⟩:=h;rfl
 let⟨c,k,rfl,a,b,q⟩:=h;erw[_,#v["CWÍĢ¨ÏW%ÀĖ##¨À"],?_];erw[jC (S':=[some _,some _]) rfl ?_]
 try dsimp only[dh,Cx.i7]
 have j:=ve c (show(10^30:Int)≠0 by decide);have l:=vf c (show(0:Int)<10^30 by decide);have i:0<=k*k/\k*k<=10^40:=#[Int.mul_nonneg a a,by have:=Int.mul_le_mul b b a nofun;lia]
 ac_nf;rwa[q]
def X7:1<*t.zh t.zl ["_law_place","_law_k"] (gJ):=by
 specialize T.zd.F.ok Fh;let⟨p,k,rfl,f,e,q⟩:=h;erw[_,#v["CDńĄńń¬ǟ9­v%LŃ9¤#LŃ9·#¬ǟ9v%­"],?_];erw[jC (S':=[some _,some _]) rfl ?_]
 try dsimp only[dh,Cx.i7]
 have j:(200:Nat)<sizeLine:=by decide
 have b:(Str.ofString "abcdefghijklnopqrstuvwxyz").cps.toList[((k%25:Nat):Int).toNat]?⊂(BY.cps.toList.getD (k%25) 97):=by
  have l:(Str.ofString "abcdefghijklnopqrstuvwxyz").cps.toList.length=25:=by trivial
  show _⊂((Str.ofString "abcdefghijklnopqrstuvwxyz").cps.toList.getD (k%25) 97);rw[Int.toNat_natCast,vy,vz ⋯];rfl
 have g:(Txt.slice (Str.ofString "mm") none (some ((p:Nat):Int))).length<=4:=vW B6 ∅;have i:(Txt.slice (Str.ofString "mm") (some ((p:Nat):Int)) none).length<=4:=vW B6 ∅;have a:∀c,⇑(⟨#[c]⟩:Str)=1:=λc=>rfl
 exists#[∅,?_];ac_nf;rw[show((k:Nat):Int)%25=((k%25:Nat):Int) by lia];erw[_,_,_,rfl,rfl,∅,G0 ⋯ b,?_];erw[_,_,rfl,rfl,by rw[a];lia,?_];ac_nf;have d:eZ (Str.ofString "nopq").cps.toList (((k:Nat):Int)/25)⊂(if k<25 then 110 else 111):=by
  by_cases c:k<25
  .rw[vd c,show((k:Nat):Int)/25=0 by lia];decide +kernel
  .rw[vc c,show((k:Nat):Int)/25=1 by lia];decide +kernel
 erw[_,_,(if k<25 then 110 else 111),rfl,rfl,∅,?_,?_]
 .exact d
 erw[_,_,rfl,rfl,by rw[Str.length_append,a,a];lia,?_];exists#[∅,?_];erw[_,_,rfl,rfl,by rw[Str.length_append,Str.length_append,a,a];lia,?_];rwa[q]
def W9:1<*t.zC t.zF ["_law_number","_law_names","_law_movers","_law_kind"] (gZ):=by
 specialize T.zx.F.ok JX;let⟨n,nl,ml,a1,L,m,Ms,o,rfl,N,n1,n0,n2,hk,q⟩:=h;erw[_,#v["65ð;Jj.ð;¥sA#<ð6EðWD°×#Ė+a¤%A#Rħwfá]Ĩâ].$ÿʔǠǡxñòyógôõāð$Ĕ2§-ŲĀǠǡxñòyógôõƈÃƉN$%#%Ó}z&Ē+aĉ%M*Ü-lƖƗz&Ɨđĩn§-ȏđƙnKÕîA*ĘM*Ü-j.ðß(§-ċ*"],?_]
 rotate_right 405
 have a4:=N.tU;have m8:∀j,⇑(Ms.getD j [])<=8:=λj=>by
  by_cases h:j<⇑m
  .exact(N.mv h).choose_spec.2.2.1
  .rw[vy,vT (by have:=N.ml;lia)];rwa[va _]
 exists#[va _,?_];walk_at"f ps hps H1 s1 t1";exists#[va _,?_];walk_at"f pu hpu H2 s2 t2";have R:=s1.trans s2;have B:∀{c u},H c⊂u->c≠ps:=λh=>je h hps
 have a3:pu≠ps:=(je t1 hpu).symm;exists#[_,_,rfl,.inl #[_,bV.of (R _ _ N.en),rfl],?_];rw[vt];exists#[_,rfl,⋯,⋯,?_];erw[qY (λt σ p=>lK λ(o6 o7 o8:N3) (e:Addr)=>fq (σ=[~~~n,↥nl,↥ml,some (.str o),↥ps,↥e,o6,o7,o8]) (e≠ps) (∀c u,H c⊂u->p c⊂u) (p ps⊂(.lst (((eK n ⇑m Ms (decide (o = "row")) t).1.map λj=>m.getD j ⟨#[]⟩).map V.str))/\p e⊂(.lst ((eK n ⇑m Ms (decide (o = "row")) t).2.map V.str)))) #[_,_,_,pu,rfl,a3,R,s2 _ _ t1,t2] ?_ ?_]
 .rintro t σ H3 ht ⟨o6,o7,o8,e,rfl,g,C,I,X⟩;have m0:=ve n (show(3:Int)≠0 by decide);have m1:=vf n (show(0:Int)<3 by decide);exists#[_,_,rfl,.inl #[_,bV.of (C _ _ N.en),rfl],?_];rw[vt];exists#[_,_,rfl,.inl #[_,bV.of (C _ _ N.en),rfl],?_];rw[vt];ac_nf;have J:((⇑m:Int)-1-(0+(t:Int))*(1+n%3))%(⇑m:Int)=((lN n ⇑m t:Nat):Int):=by
   unfold lN;have a:=ve ((⇑m:Int)-1-(t:Int)*(1+n%3)) (show(⇑m:Int)≠0 by lia);rw[ux];lia
  rw[J];have W:=AH (n:=n) (t:=t) n1;have d:=Il (n:=n) (len:=⇑m) (Ms:=Ms) (ro:=decide (o = "row")) t;have us:=Et (n:=n) (len:=⇑m) (ro:=decide (o = "row")) m8 t;have sl:=wP (n:=n) (len:=⇑m) (Ms:=Ms) (ro:=decide (o = "row")) t;generalize eK n ⇑m Ms (decide (o = "row")) t=S at I X d us sl;generalize lN n ⇑m t=j at W d|-;clear J;let⟨ma,a0,v,a2,mw⟩:=N.mv W;have aM:eZ (a1.map V.ref) ((j:Nat):Int)=↥ma:=jS (by rw[vv,a0];rfl);erw[ck (bV.of (C _ _ N.em)) (aM) ?_];erw[ma,rfl,#[_,bV.of (C _ _ v)],?_];erw[Jn (xs:=(Ms.getD j []).map V.str) (λi ys p=>ys=(((Ms.getD j []).take i).filter λs=>decide (s∈S.2)).map V.str/\H3=p) #[rfl,rfl] ?_ ?_ ?_]
  .rintro i ys p _ ⟨rfl,rfl⟩;rwa[bV.of (C _ _ v)]
  .rintro i x ys p Y ⟨rfl,rfl⟩;rw[vv]at Y;let⟨k,M,rfl⟩:=vg.mp Y;have ik:=(vx.mp M).1;erw[Jo (S':=[none,some _]) rfl ?_];exists#[e,_,rfl,.inl (bV.of X),rfl,lP _,?_];rw[B3];ac_nf;rw[take_snoc M,filter_append];have lf:⇑(((Ms.getD j []).take i).filter λs=>decide (s∈S.2))<=8:=vW (length_filter_le _ _) (by rw[vi];lia);refine cA (λc=>?_) (λc=>?_)
   .exists#[by rw[vt];lia,?_,rfl];rw[vj,v8,vd (vG c),filter_nil];rfl
   .refine#[?_,rfl];rw[v8,vc (by rw[vH c];rwa[vF]),filter_nil,append_nil]
  rintro ys p ⟨rfl,rfl⟩;rw[show((Ms.getD j []).map V.str).length=⇑(Ms.getD j []) from vt _,v5];have lf:⇑((Ms.getD j []).filter λs=>decide (s∈S.2))<=8:=vW (length_filter_le _ _) a2;have wf:∀x∈(Ms.getD j []).filter (λs=>decide (s∈S.2)),Ws.fR x=true:=λx Y=>mw x (vP.mp Y).1
  erw[by rw[vt];lia,?_];sleep 5;have k5:bU H H5:=λc u h=>s5 _ _ (C _ _ h)
  have y:=s5 _ _ I;have r:=s5 _ _ X;have n5:p5≠ps:=(je I hp5).symm;exists#[λS' p=>dH λ(U:L6)=>fq (S'=[~~~n,↥nl,↥ml,some (.str o),↥ps,↥e,some (.int (0+(t:Int))),some (.int (j:Nat)),↥p5]) (∀c u,c≠ps->H5 c⊂u->p c⊂u) (p ps⊂(.lst ((U.map λj=>m.getD j ⟨#[]⟩).map V.str))) ((o = "row"->U=(eK n ⇑m Ms (decide (o = "row")) (t+1)).1/\(eK n ⇑m Ms (decide (o = "row")) (t+1)).2=S.2)/\(o≠"row"->U=S.1)),?_,?_]
  rotate_left
  .exists cA (λc=>?_) (λc=>?_)
   .rw[vd (vG c)]at d;exists cA (λc2=>?_) (λc2=>?_)
    .rw[vd ⋯]at d;exists#[.inl #[rfl,_,bV.of y],?_];exists ck (bV.of (k5 _ _ N.en)) (Zx W) ?_;exists#[ps,_,_,rfl,rfl,y,by rw[vt,vt];lia,?_];erw[S.1++[j],rfl,λc u hc h=>(jh hc).trans h,?_,λ_=>by rw[d];rwa[rfl,rfl],λh=>uf c h];rw[jA,vj,vj];rfl
    .rw[vc ⋯]at d;ac_nf;rwa[S.1,rfl,λc u _ h=>h,y,λ_=>by rw[d];rwa[rfl,rfl],λh=>uf c h]
   .ac_nf;rwa[S.1,rfl,λc u _ h=>h,y,λh=>uf h c,λ_=>rfl]
  rintro S' H6 ⟨U,rfl,G,D,O,F⟩;have l:bU H H6:=λc u h=>G _ _ (B h) (k5 _ _ h)
  exists cA (λc=>?_) (λc=>?_)
  .have nr:o≠"row":=λz=>by rw[z]at c;exact uf c ∅
   obtain rfl:=F nr;rw[vc (by rw[vH nr];rwa[vF])]at d;exists ck (bV.of (l _ _ N.em)) (aM) ?_;exists#[va _,?_];sleep 7;erw[_,_,.lst (s7 _ _ (l _ _ v)) (zI _),sI t7,nu mw,nj,?_];rw[mY];exists mB (λd1=>?_) (λd1=>?_)
   .exists#[va _,?_];sleep 8;have f:=s7.trans s8;erw[_,_,.lst (f _ _ (G _ _ n5 t5)) (zI _),sI t8,nu wf,nj,?_];rw[mY];exists cA (λd2=>?_) (λd2=>?_)
    .exists#[_,_,rfl,.inl #[_,bV.of (f _ _ D),rfl],?_];rw[vt,vt];exists cA (λd3=>?_) (λd3=>?_)
     .rw[vd #[d1,d2,⋯]]at d;exists#[.inl #[rfl,_,bV.of (f _ _ D)],?_];exists ck (bV.of (f _ _ (l _ _ N.en))) (Zx W) ?_;exists#[ps,_,_,rfl,rfl,f _ _ D,by rw[vt,vt];lia,?_];generalize eG:upd H8 ps _=H9;have e9:H9 ps⊂(.lst (((S.1++[j]).map λj=>m.getD j ⟨#[]⟩).map V.str)):=by
       rw[vj,vj];rwa[Qc eG]
      have Z:∀c u,c≠ps->H6 c⊂u->H9 c⊂u:=λc u hc h=>eG▸(jh hc).trans (f c u h)
      clear eG;exists ck (bV.of (Z _ _ (B N.em) (l _ _ N.em))) (aM) ?_;erw[e,ma,_,_,rfl,rfl,Z _ _ g (G _ _ g r),Z _ _ (B v) (l _ _ v),by rw[vt,vt];lia,?_];sleep 10;exists#[_,_,_,p10,rfl,(je e9 hp10).symm,λc u h=>s10 _ _ (Z _ _ (B h) (l _ _ h)),by rw[d];rwa[s10 _ _ e9],by rw[d,vj];rwa[t10]]
     .rw[vc (λz=>d3 ⋯)]at d;ac_nf;rwa[_,_,_,e,rfl,g,λc u h=>f _ _ (l _ _ h),by rw[d];rwa[f _ _ D],by rw[d];rwa[f _ _ (G _ _ g r)]]
    .rw[vc (λz=>d2 z.2.1)]at d;ac_nf;rwa[_,_,_,e,rfl,g,λc u h=>f _ _ (l _ _ h),by rw[d];rwa[f _ _ D],by rw[d];rwa[f _ _ (G _ _ g r)]]
   .rw[vc (λz=>z.1 d1)]at d;ac_nf;rwa[_,_,_,e,rfl,g,λc u h=>s7 _ _ (l _ _ h),by rw[d];rwa[s7 _ _ D],by rw[d];rwa[s7 _ _ (G _ _ g r)]]
  .have cr:o = "row":=hk.resolve_right c;let⟨r1,r2⟩:=O cr;ac_nf;rwa[_,_,_,e,rfl,g,l,by rw[<-r1];rwa[D],by rw[r2];rwa[G _ _ g r]]
 .rintro σ p ⟨o6,o7,o8,e,rfl,g,C,I,X⟩;exists#[ps,_,rfl,.inl #[bV.of I,?_]];walk_at"f b hb H3 s3 t3";rwa[q b H3 (λc u h=>s3 _ _ (C _ _ h)) t3]
def X2:2<*t.y8 t.Yh ["_law_number","_law_names","_law_movers","_law_limbs","_law_bounds"] (iF):=by
 specialize T.wb.F.ok Qa;let⟨n,C,I,pl,bd,p,ac,B,d,Ms,b0,b1,b2,b3,b4,rfl,N,L,Bd,n0,n2,q⟩:=h;erw[_,#v["6.Ī¤%r<Ī·%>EĪaWDÆ%À=*ĉ%|}đƙn#Ù(.Īĉ%HÕî(Ä¶9i&W+A&W·+č-RHq(Â9=ĄƎƎÇ_99¬œ#­v)ª9¤+-Hq(b³ƚƛ¶+#'9JH}q(ÙA³ƚƛ¶+#'9b³ƚƛ¶+#'9Xq(6fĪD°×#W+ķƐ$Ƒƒ)A#CÂ9aWDÆ%ÀčÜKb-"],?_]
 rotate_right 504
 have ad:=N.tU;have l1:=L.l1;have a1:=L.la.1;let⟨eb,O,R,S,U,a2,a3,a4,a5,a6,a7⟩:=Bd;have k0:=ve n (show(8:Int)≠0 by decide);have k1:=vf n (show(0:Int)<8 by decide);have i0:=ve (n/8) (show(2:Int)≠0 by decide);have i1:=vf (n/8) (show(0:Int)<2 by decide);let⟨m,X,a8,a9⟩:=rM (b2:=b2) (b3:=b3) (b4:=b4) #[O,R] #[S,U] i0 i1;have m0:0<=n/100:=⋯
 have m1:n/100<=10^40:=⋯
 have v0:=ve (n/10^12) (show m≠0 by lia);have v1:=vf (n/10^12) (show 0<m by lia);exists Ew ?_;exists ck (bV.of eb) (X) ?_;exists#[λS' H'=>dH λ(y:Int)=>fq (S'=[~~~n,↥C,↥I,↥pl,↥bd,~~~y,some (.int (n/100)),some (.int (1+n/10^12%m)),none]) (bU H H') (0<=y) (y<8/\(4<y->1<=⇑d)),?_,?_]
 rotate_left
 .exists#[va _,?_];walk_at"f e3 he3 H3 s3 t3";erw[_,_,.lst (s3 _ _ N.en) (zI _),sI t3,nu N.w,nj,?_];rw[mY];exists cA (λc=>?_) (λc=>?_)
  .exists cA (λc2=>?_) (λc2=>?_)
   .ac_nf;have F:=ve (n/16) (show(5:Int)≠0 by decide);have w1:=vf (n/16) (show(0:Int)<5 by decide);rwa[_,rfl,s3,F,⋯,λh=>uf h ⋯]
   .ac_nf;rwa[_,rfl,s3,k0,k1,λh=>uf h c2]
  .ac_nf;rwa[_,rfl,s3,k0,k1,λ_=>length_pos_iff.mpr c]
 rintro S' H1 ⟨y,rfl,f,aa,ab,kn⟩;have l:=N.same f;have g:=L.same f;have u:=f _ _ eb;exists cA (λc=>?_) (λc=>?_)
 .exists#[_,_,rfl,.inl #[_,bV.of g.el,rfl],?_];rw[vt,a1];ac_nf;have F:=ve (n/100) (show(⇑B:Int)≠0 by lia);have w1:=vf (n/100) (show(0:Int)<(⇑B:Int) by lia);generalize n/100%(⇑B:Int)=r at F w1|-;obtain⟨j,rfl⟩:∃j:Nat,r=(j:Int):=#[r.toNat,⋯]
  have x:j<⇑B:=⋯
  let⟨lk,Z,Y⟩:=g.la.get (vz x);erw[ck (bV.of g.el) (jS (j:=j) (by rw[vv,Z];rfl)) ?_];exists cg Y ?_;exists ck (bV.of u) rfl ?_;ac_nf;have h0:=ve (n/100/10) (show b2≠0 by lia);have h1:=vf (n/100/10) (show 0<b2 by lia);erw[ua,?_];walk_at"f b6 hb6 H6 s6 t6";erw[q b6 (.rise B[j].1 (n/100/10%b2) (1+n/10^12%m)) H6 (f.trans s6) t6 #[#[j,?_],h0,⋯,⋯,⋯]];unfold bQ;rw[vv,vz x];rfl
 exists cA (λc4=>?_) (λc4=>?_)
 .exists#[uc,?_];walk_at"f b3 hb3 H3 s3 t3";exists#[C,_,rfl,bV.of (s3 _ _ l.en),?_];walk_at"f b4 hb4 H4 s4 t4";have cl:=ZA (d.map V.str) none (some 1);rw[vt]at cl;erw[b3,b4,_,_,rfl,rfl,s4 _ _ t3,t4,by show 2+_<=sizeLine;lia,?_];walk_at"f b5 hb5 H5 s5 t5";exists#[ud,?_];walk_at"f b6 hb6 H6 s6 t6";erw[b5,b6,_,_,rfl,rfl,s6 _ _ t5,t6,by rw[vn];show 2+_+1<=sizeLine;lia,?_];walk_at"f b7 hb7 H7 s7 t7";ac_nf;have F:=ve (n/100) (show(3:Int)≠0 by decide);have w1:=vf (n/100) (show(0:Int)<3 by decide);have a0:∀v∈[V.str "ding",V.str "dong"]++gQ (d.map V.str) none (some 1)++[V.str "din"],∃w:Str,v = .str w/\Ws.fR w=true:=λv hv=>by
   rcases vh.mp hv with z | z
   .rcases vh.mp z with z | z
    .rcases mem_cons.mp z with rfl | z
     .exact#[_,rfl,by trivial]
     .rw[vo.mp z];rwa[_,rfl,by trivial]
    .let⟨J,o,rfl⟩:=vK.mp (C6 z);rwa[J,rfl,N.w J o]
   .rw[vo.mp z];rwa[_,rfl,by trivial]
  let⟨J,o,ww⟩:=Cv (k:=n/100%3) a0 F (by rw[vn,vn];show _<(((2+_+1:Nat)):Int);lia);erw[ck (bV.of t7) (o) ?_];exists#[ub,?_];walk_at"f b8 hb8 H8 s8 t8";rwa[q b8 (.ring J (1+n/10^12%m)) H8 (f.trans (s3.trans (s4.trans (s5.trans (s6.trans (s7.trans s8)))))) t8 #[⋯,⋯,ww]]
 exists cA (λc5=>?_) (λc5=>?_)
 .have e:=kn ⋯;exists#[_,C,I,p,_,d,Ms,"row",rfl,l,e,m0,m1,.inl rfl,λb2 H2 D W=>?_];exists#[uc,?_];walk_at"f b6 hb6 H6 s6 t6";have ln:=wP (n:=n/100) (len:=⇑d) (Ms:=Ms) (ro:=decide (("row" : Str) = "row")) ⇑d;erw[q b6 (.row (eK (n/100) ⇑d Ms (decide (("row" : Str) = "row")) ⇑d).1) H6 (f.trans (D.trans s6)) #[b2,t6,s6 _ _ W] #[Es ∅ _ e,⋯,A4 e _]]
 exists cA (λc6=>?_) (λc6=>?_)
 .have e:=kn ⋯;exists#[_,C,I,p,_,d,Ms,"side",rfl,l,e,m0,m1,.inr rfl,λb2 H2 D W=>?_];have ln:=wP (n:=n/100) (len:=⇑d) (Ms:=Ms) (ro:=decide (("side" : Str) = "row")) ⇑d;erw[_,_,rfl,.inr #[_,cw.of W,rfl],?_];rw[vt,vt];exists cA (λc7=>?_) (λc7=>?_)
  .exists#[_,C,I,p,_,d,Ms,"side",rfl,l.same D,e,m0,m1,.inr rfl,λb3 H3 s3 e3=>?_];exists#[uc,?_];walk_at"f b6 hb6 H6 s6 t6";erw[q b6 (.side (eK (n/100) ⇑d Ms (decide (("side" : Str) = "row")) ⇑d).1) H6 (f.trans (D.trans (s3.trans s6))) #[b3,t6,s6 _ _ e3] #[⋯,⋯,A4 e _,(Er ∅ _).1.n N.il]]
  .exists cA (λG=>?_) (λG=>?_)
   .exact uf G ⋯
   exists#[uc,?_];walk_at"f b6 hb6 H6 s6 t6";rwa[q b6 (.hold (1+n/10^12%m)) H6 (f.trans (D.trans s6)) t6 #[⋯,⋯]]
 erw[gC ?_];exists cA (λG=>?_) (λG=>?_)
 .have e:=kn ⋯;exists#[_,_,rfl,.inl #[_,bV.of l.en,rfl],?_];rw[vt];exists#[_,_,rfl,.inl #[_,bV.of l.en,rfl],?_];rw[vt];erw[_,_,rfl,?_];dsimp only;ac_nf;obtain⟨j,ej,x⟩:∃j:Nat,(⇑d:Int)-1-n/100%(if(⇑d:Int)<3 then(⇑d:Int)else 3)=(j:Int)/\j<⇑d:=by
   have a:=ve (n/100) (show(if(⇑d:Int)<3 then(⇑d:Int)else 3)≠0 by split<;>lia);have b:=vf (n/100) (show 0<(if(⇑d:Int)<3 then(⇑d:Int)else 3) by split<;>lia);generalize n/100%(if(⇑d:Int)<3 then(⇑d:Int)else 3)=z at a b|-;erw[((⇑d:Int)-1-z).toNat,?_,?_]
   .split at b<;>lia
   .split at b<;>lia
  rw[ej];erw[Ew ?_];exists ck (bV.of u) rfl ?_;ac_nf;have h0:=ve (n/10^12) (show b3≠0 by lia);have h1:=vf (n/10^12) (show 0<b3 by lia);erw[ck (bV.of l.en) (Zx x) ?_];exists#[ub,?_];walk_at"f b6 hb6 H6 s6 t6";rwa[q b6 (.again (1+n/10^12%b3) j) H6 (f.trans s6) t6 #[⋯,⋯,x]]
 exists#[uc,?_];walk_at"f b6 hb6 H6 s6 t6";rwa[q b6 (.hold (1+n/10^12%m)) H6 (f.trans s6) t6 #[⋯,⋯]]
def X4:1<*t.zf t.zj ["_law_form_here","_law_known"] (gH):=by
 specialize T.zc.F.ok Fg;let⟨C,d,f,o,F,L,M,rfl,y,J,U,W,p,N,q⟩:=h;erw[_,#v["B¦`Ɗ$ƋƌØī:ǢdöŔã,döŔº%J¦`ƍ$ŉŊØī:ǢdöŔã,döŔº%¦Ė,º,Lĸ%×%"],?_]
 rotate_right 200
 have u:∀j,j<⇑o->cY H d (.str (o.getD j ⟨#[]⟩)) (some (.int (F∘j))):=λj l=>by
  have g:=cY.k (k:=Sum.inr (o.getD j ⟨#[]⟩)) J;rw[kJ U W l]at g;rwa[g]
 let⟨D,c⟩:=p.js;cases f with
 | hold n=>
  have a:H C⊂(.tup _):=y;exists cg a ?_;exists bZ ?_;exists cg a ?_;exists bZ ?_;exists cg a ?_;exists bZ ?_;exists#[_,_,rfl,.inr #[_,cw.of a,rfl],?_];exists cg a ?_;rwa[q _ H (bU.refl _) rfl]
 | ring x n=>
  have a:H C⊂(.tup _):=y;exists cg a ?_;exists bZ ?_;exists cg a ?_;exists bZ ?_;exists cg a ?_;exists bZ ?_;exists#[_,_,rfl,.inr #[_,cw.of a,rfl],?_];exists cg a ?_;rwa[q _ H (bU.refl _) rfl]
 | rise x h n=>
  have a:H C⊂(.tup _):=y;exists cg a ?_;exists bZ ?_;exists cg a ?_;exists bZ ?_;exists cg a ?_;exists bZ ?_;exists#[_,_,rfl,.inr #[_,cw.of a,rfl],?_];exists cg a ?_;rwa[q _ H (bU.refl _) rfl]
 | row is=>
  let⟨b,a,z⟩:=y;have D:⇑is<=8:=D;have c:∀j∈is,j<⇑o:=c;exists cg a ?_;exists cI ?_;exists cg a ?_;erw[b,rfl,#[_,cw.of z],?_];erw[Z1 (xs:=(is.map λj=>o.getD j ⟨#[]⟩).map V.str) (λt r m=>r=((is.take t).map λj=>F∘j).map V.int/\H=m) #[rfl,rfl] ?_ ?_ ?_]
  .rintro t r m _ ⟨rfl,rfl⟩;rwa[cw.of z]
  .rintro t v r m B ⟨rfl,rfl⟩;rw[vv,vv]at B;let⟨x,G,rfl⟩:=vg.mp B;let⟨j,l,rfl⟩:=vg.mp G;have S:=(vx.mp l).1;erw[Jo (S':=[none,↥d]) rfl ?_];exists dt ?_;exists#[d,_,rfl,u j (c j (vm l)),?_];erw[by rw[vt,vt,vi];lia,?_,rfl];rw[take_snoc l,vj,vj];rfl
  rintro r m ⟨rfl,rfl⟩;rw[show((is.map λj=>o.getD j ⟨#[]⟩).map V.str).length=⇑is by rw[vt,vt],v5];erw[by rw[vt,vt];lia,?_];sleep 1;exists#[p1,_,rfl,bV.of t1,?_];rwa[q _ H1 s1 rfl]
 | side is=>
  let⟨b,a,z⟩:=y;have D:⇑is<=8:=D;have c:∀j∈is,j<⇑o:=c;have Y:=p.1;exists cg a ?_;exists bZ ?_;exists cg a ?_;exists cI ?_;exists cg a ?_;erw[b,rfl,#[_,cw.of z],?_];erw[Z1 (xs:=(is.map λj=>o.getD j ⟨#[]⟩).map V.str) (λt r m=>r=((is.take t).map λj=>F∘j).map V.int/\H=m) #[rfl,rfl] ?_ ?_ ?_]
  .rintro t r m _ ⟨rfl,rfl⟩;rwa[cw.of z]
  .rintro t v r m B ⟨rfl,rfl⟩;rw[vv,vv]at B;let⟨x,G,rfl⟩:=vg.mp B;let⟨j,l,rfl⟩:=vg.mp G;have S:=(vx.mp l).1;erw[Jo (S':=[none,↥d]) rfl ?_];exists dt ?_;exists#[d,_,rfl,u j (c j (vm l)),?_];erw[by rw[vt,vt,vi];lia,?_,rfl];rw[take_snoc l,vj,vj];rfl
  rintro r m ⟨rfl,rfl⟩;rw[show((is.map λj=>o.getD j ⟨#[]⟩).map V.str).length=⇑is by rw[vt,vt],v5];erw[by rw[vt,vt];lia,?_];sleep 1;exists#[p1,_,rfl,bV.of t1,by rw[vt];lia,λg O R=>?_];let⟨j,l,e⟩:=vK.mp O;rwa[q g H1 s1 #[#[j,l,e.symm],λj l=>R _ (vK.mpr #[j,l,rfl])]]
 | again k j=>
  have a:H C⊂(.tup _):=y;have I:=c j vq;have X:=N j I;have Z:=p.1;have k2:=p.2.1;exists cg a ?_;exists bZ ?_;exists cg a ?_;exists bZ ?_;exists cg a ?_;exists cI ?_;exists cg a ?_;exists cg a ?_;exists#[d,_,rfl,u j I,?_];ac_nf;rwa[q _ H (bU.refl _) rfl]
def W8:1<*t.QD t.QG ["_law_form_here","_law_names","_law_movers"] (fK):=by
 specialize T.yc.F.ok JW;let⟨C,G,R,a7,f,I,Ms,L,M,rfl,X,en,em,aM,nd,ln,ac,J,k4,q⟩:=h;erw[_,#v["R¦ª,>1÷;R|ēÔÔ1÷Ć,|Ô1÷ª,Ĉ5÷2&.÷4¥2§Ȋʗʘʙ#(<÷lÃʚ+*k*+*"],?_]
 rotate_right 304
 cases f
 case rise x h n=>
  have o:H C⊂(.tup _):=X;exists cg o ?_;exists cI ?_;exists cg o ?_;exists#[ud,?_];sleep 1;erw[q p1 [x] H1 s1 hp1 t1 #[pairwise_singleton _ _,λs=>?_] (by show 1<=80;decide)];rw[vo];constructor
  .rintro rfl;rwa[.inr #[h,n,rfl]]
  .rintro(⟨j,hj,_⟩ | ⟨h',n',e⟩)
   .exact nomatch hj
   .injection e with e1;rwa[e1.symm]
 case' hold n=>
  have o:H C⊂(.tup _):=X;exists cg o ?_;exists bZ ?_;exists#[va _,?_];sleep 1;have l:=s1 _ _ o;exists#[λS' g=>dH λ(d:Addr)=>dG (S'=[↥C,↥G,↥R,↥d,none,none,none]) (bU H g/\g d⊂(.lst (((uk (Fn.hold n)).map λj=>I.getD j ⟨#[]⟩).map V.str))),?_,?_]
  rotate_left
  .exists cg l ?_;exists bZ ?_;exists cg l ?_;exists bZ ?_;ac_nf;rwa[p1,rfl,s1,t1]
  rintro S' H2 ⟨p2,rfl,m,e2⟩;have r:=m _ _ o;exists#[λS' g=>dH λ(d:Addr)=>dG (S'=[↥C,↥G,↥R,↥d,none,none,none]) (bU H g/\g d⊂(.lst (((Fn.hold n).js.map λj=>I.getD j ⟨#[]⟩).map V.str))),?_,?_]
  rotate_left
  .exists cg r ?_;exists bZ ?_;ac_nf;rwa[p2,rfl,m,e2]
  rintro S' H3 ⟨d,rfl,D,O⟩;have W:∀Z u1 u2,(Fn.hold n)≠.rise Z u1 u2:=λ_ _ _ z=>by cases z
  clear X;generalize(Fn.hold n)=f at O W J q
 case' ring x n=>
  have o:H C⊂(.tup _):=X;exists cg o ?_;exists bZ ?_;exists#[va _,?_];sleep 1;have l:=s1 _ _ o;exists#[λS' g=>dH λ(d:Addr)=>dG (S'=[↥C,↥G,↥R,↥d,none,none,none]) (bU H g/\g d⊂(.lst (((uk (Fn.ring x n)).map λj=>I.getD j ⟨#[]⟩).map V.str))),?_,?_]
  rotate_left
  .exists cg l ?_;exists bZ ?_;exists cg l ?_;exists bZ ?_;ac_nf;rwa[p1,rfl,s1,t1]
  rintro S' H2 ⟨p2,rfl,m,e2⟩;have r:=m _ _ o;exists#[λS' g=>dH λ(d:Addr)=>dG (S'=[↥C,↥G,↥R,↥d,none,none,none]) (bU H g/\g d⊂(.lst (((Fn.ring x n).js.map λj=>I.getD j ⟨#[]⟩).map V.str))),?_,?_]
  rotate_left
  .exists cg r ?_;exists bZ ?_;ac_nf;rwa[p2,rfl,m,e2]
  rintro S' H3 ⟨d,rfl,D,O⟩;have W:∀Z u1 u2,(Fn.ring x n)≠.rise Z u1 u2:=λ_ _ _ z=>by cases z
  clear X;generalize(Fn.ring x n)=f at O W J q
 case' row is=>
  let⟨b,o,hb⟩:=X;exists cg o ?_;exists bZ ?_;exists#[va _,?_];sleep 1;have l:=s1 _ _ o;exists#[λS' g=>dH λ(d:Addr)=>dG (S'=[↥C,↥G,↥R,↥d,none,none,none]) (bU H g/\g d⊂(.lst (((uk (Fn.row is)).map λj=>I.getD j ⟨#[]⟩).map V.str))),?_,?_]
  rotate_left
  .exists cg l ?_;exists cI ?_;erw[dt ?_];exists cg l ?_;exists#[b,_,rfl,.inr (cw.of (s1 _ _ hb)),?_];sleep 2;ac_nf;rwa[p2,rfl,s1.trans s2,t2]
  rintro S' H2 ⟨p2,rfl,m,e2⟩;have r:=m _ _ o;exists#[λS' g=>dH λ(d:Addr)=>dG (S'=[↥C,↥G,↥R,↥d,none,none,none]) (bU H g/\g d⊂(.lst (((Fn.row is).js.map λj=>I.getD j ⟨#[]⟩).map V.str))),?_,?_]
  rotate_left
  .exists cg r ?_;exists bZ ?_;ac_nf;rwa[p2,rfl,m,e2]
  rintro S' H3 ⟨d,rfl,D,O⟩;have W:∀Z u1 u2,(Fn.row is)≠.rise Z u1 u2:=λ_ _ _ z=>by cases z
  generalize(Fn.row is)=f at O W J q;clear o hb
 case' side is=>
  let⟨b,o,hb⟩:=X;exists cg o ?_;exists bZ ?_;exists#[va _,?_];sleep 1;have l:=s1 _ _ o;exists#[λS' g=>dH λ(d:Addr)=>dG (S'=[↥C,↥G,↥R,↥d,none,none,none]) (bU H g/\g d⊂(.lst (((uk (Fn.side is)).map λj=>I.getD j ⟨#[]⟩).map V.str))),?_,?_]
  rotate_left
  .exists cg l ?_;exists bZ ?_;exists cg l ?_;exists cI ?_;exists cg l ?_;exists#[b,_,rfl,.inr (cw.of (s1 _ _ hb)),?_];sleep 2;ac_nf;rwa[p2,rfl,s1.trans s2,t2]
  rintro S' H2 ⟨p2,rfl,m,e2⟩;have r:=m _ _ o;exists#[λS' g=>dH λ(d:Addr)=>dG (S'=[↥C,↥G,↥R,↥d,none,none,none]) (bU H g/\g d⊂(.lst (((Fn.side is).js.map λj=>I.getD j ⟨#[]⟩).map V.str))),?_,?_]
  rotate_left
  .exists cg r ?_;exists bZ ?_;ac_nf;rwa[p2,rfl,m,e2]
  rintro S' H3 ⟨d,rfl,D,O⟩;have W:∀Z u1 u2,(Fn.side is)≠.rise Z u1 u2:=λ_ _ _ z=>by cases z
  generalize(Fn.side is)=f at O W J q;clear o hb
 case' again k j=>
  have o:H C⊂(.tup _):=X;exists cg o ?_;exists bZ ?_;exists#[va _,?_];sleep 1;have l:=s1 _ _ o;exists#[λS' g=>dH λ(d:Addr)=>dG (S'=[↥C,↥G,↥R,↥d,none,none,none]) (bU H g/\g d⊂(.lst (((uk (Fn.again k j)).map λj=>I.getD j ⟨#[]⟩).map V.str))),?_,?_]
  rotate_left
  .exists cg l ?_;exists bZ ?_;exists cg l ?_;exists bZ ?_;ac_nf;rwa[p1,rfl,s1,t1]
  rintro S' H2 ⟨p2,rfl,m,e2⟩;have r:=m _ _ o;exists#[λS' g=>dH λ(d:Addr)=>dG (S'=[↥C,↥G,↥R,↥d,none,none,none]) (bU H g/\g d⊂(.lst (((Fn.again k j).js.map λj=>I.getD j ⟨#[]⟩).map V.str))),?_,?_]
  rotate_left
  .exists cg r ?_;exists cI ?_;exists cg r ?_;exists#[ud,?_];sleep 3;ac_nf;rwa[p3,rfl,m.trans s3,t3]
  rintro S' H3 ⟨d,rfl,D,O⟩;have W:∀Z u1 u2,(Fn.again k j)≠.rise Z u1 u2:=λ_ _ _ z=>by cases z
  clear X;generalize(Fn.again k j)=f at O W J q
 all_goals
  let⟨j8,a8⟩:=J.js;exists#[va _,?_];walk_at"f pf hpf H4 s4 t4";have a3:=D.trans s4;have mf:∀{c u},H c⊂u->c≠pf:=λh=>je (D _ _ h) hpf
  have a9:d≠pf:=je O hpf;have aa:=aM.1;exists#[d,rfl,#[_,bV.of (s4 _ _ O)],?_];erw[JD (xs:=(f.js.map λj=>I.getD j ⟨#[]⟩).map V.str) (λt σ g=>iR λ(o5 Y:N3) (U:L8)=>iQ (σ=[↥C,↥G,↥R,↥d,↥pf,o5,Y]) (∀c u,c≠pf->H4 c⊂u->g c⊂u) (g pf⊂(.lst (U.map V.str))) U.Nodup (⇑U<=8*t) (∀s,s∈U↔∃j∈f.js.take t,s∈Ms.getD j [])) #[_,_,[],rfl,λc u _ h=>h,t4,.nil,vb _,λs=>#[(λh=>nomatch h),λ⟨j,hj,_⟩=>nomatch hj]] ?_ ?_ ?_]
  .rintro t σ g _ ⟨o5,Y,U,rfl,sm,_⟩;rwa[bV.of (sm _ _ a9 (s4 _ _ O))]
  .rintro t v σ H5 hv ⟨o5,Y,U,rfl,sm,e5,a2,kl,S⟩;rw[vv,vv]at hv;let⟨x,hx,rfl⟩:=vg.mp hv;let⟨j,hj,rfl⟩:=vg.mp hx;have tl:=(vx.mp hj).1;have jl:=a8 j (vm hj);let⟨l1,l2,l3⟩:=tO nd jl;have a4:Ms[j]?⊂(Ms.getD j []):=by rw[vy,vz ⋯];rfl
   have ab:=k4 _ (vm a4);obtain⟨ma,a5⟩:∃ma,a7[j]?⊂ma:=#[_,vz ⋯]
   have a0:=aM.2 j ma _ a5 a4;have k5:∀{c u},H c⊂u->H5 c⊂u:=λh=>sm _ _ (mf h) (a3 _ _ h)
   exists#[.inl #[rfl,_,bV.of (k5 en)],?_];exists#[G,_,.str _,.str _,j,rfl,rfl,bV.of (k5 en),rfl,lP _,l1,l2,l3,?_];exists ck (bV.of (k5 em)) (jS (show(a7.map V.ref)[j]?=↥ma by rw[vv,a5];rfl)) ?_;erw[ma,rfl,#[_,bV.of (k5 a0)],?_];erw[JD (xs:=(Ms.getD j []).map V.str) (λu σ g=>fW λ(Y:N3) (B:L8)=>iQ (σ=[↥C,↥G,↥R,↥d,↥pf,some (.str (I.getD j ⟨#[]⟩)),Y]) (∀c u,c≠pf->H4 c⊂u->g c⊂u) (g pf⊂(.lst (B.map V.str))) B.Nodup (⇑B<=8*t+u) (∀s,s∈B↔s∈U\/s∈(Ms.getD j []).take u)) #[_,U,rfl,sm,e5,a2,kl,λs=>#[.inl,λh=>h.elim id λh=>nomatch h]] ?_ ?_ ?_]
   .rintro u σ g _ ⟨Y,B,rfl,N,_⟩;rwa[bV.of (N _ _ (mf a0) (a3 _ _ a0))]
   .rintro u v σ H6 hv ⟨Y,B,rfl,N,e6,F,a6,p⟩;rw[vv]at hv;let⟨y,hy,rfl⟩:=vg.mp hv;have ul:=(vx.mp hy).1;exists#[pf,_,rfl,.inl (bV.of e6),rfl,lP _,?_];rw[vd rfl,XO];erw[_,rfl,?_];refine mB (λc=>?_) (λc=>?_)
    .exists#[.inl #[rfl,_,bV.of e6],?_];exists#[pf,_,_,rfl,rfl,e6,by rw[vt];lia,?_];erw[_,B++[y],rfl,λc u hc h=>(jh hc).trans (N _ _ hc h),by rw[jA,vj];rfl,nodup_append.mpr #[F,pairwise_singleton _ _,λa o b hb e=>c (by rw[<-vo.mp hb,<-e];rwa[o])],by rw[vn,vS];lia,λs=>?_];rw[vh,p,vo,take_snoc hy,vh,vo,or_assoc]
    .exists#[_,B,rfl,N,e6,F,⋯,λs=>?_];rw[p,take_snoc hy,vh,vo];erw[λh=>h.elim .inl λh=>.inr (.inl h),?_];rintro(h | h | rfl)
     .exact .inl h
     .exact .inr h
     .exact(p _).mp c
   .rintro σ H6 ⟨Y,B,rfl,N,e6,F,a6,p⟩;rw[vt]at a6 p;rw[v5]at p;exists#[_,_,B,rfl,N,e6,F,⋯,λs=>?_];rw[p,S,take_snoc hj];constructor
    .rintro(⟨j',a1,h⟩ | h)
     .exact#[j',mem_append_left _ a1,h]
     .exact#[j,mem_append_right _ vq,h]
    .rintro⟨j',a1,h⟩;rcases vh.mp a1 with z | z
     .exact .inl #[j',z,h]
     .rw[vo.mp z]at h;rwa[.inr h]
  .rintro σ H5 ⟨o5,Y,U,rfl,sm,e5,a2,kl,S⟩;rw[show((f.js.map λj=>I.getD j ⟨#[]⟩).map V.str).length=⇑f.js by rw[vt,vt]]at kl S;rw[v5]at S;ac_nf;rwa[q pf U H5 (λc u h=>sm _ _ (mf h) (a3 _ _ h)) (none_of D hpf) e5 #[a2,λs=>(S s).trans #[.inl,λh=>h.elim id λ⟨h',n',e⟩=>uf e (W _ _ _)]] ⋯]
def X3:1<*t.ze t.zi ["_law_names","_law_known","_law_most"] (gG):=by
 specialize T.yP.F.ok QL;let⟨X,d,f,S,B,rfl,N,M,nd,ng,n1,a0,gb,q⟩:=h;erw[_,#v["61ŕ;£5ŕ)ʛ0ʜ?%®.ŕl}ÕîA&TŏÏ*º('ĘM&(>5ŕÏ*º(ċ&"],?_]
 rotate_right 303
 have p:∀(h:Hp) j,h d⊂(.dK (ff f S))->j<⇑f->cY h d (.str (f.getD j ⟨#[]⟩)) (some (.int (S∘j))):=λh j eh hj=>by
  have g:=cY.k (k:=Sum.inr (f.getD j ⟨#[]⟩)) eh;rw[kJ nd ng hj]at g;rwa[g]
 exists#[va _,?_];walk_at"f ps hps H1 s1 t1";have l:∀{c u},H c⊂u->c≠ps:=λh=>je h hps
 exists#[X,_,rfl,bV.of (s1 _ _ N),?_];erw[IS (xs:=f.map V.str) (λt J m=>iR λ(G:N3) (e:L6) (a:Int)=>iQ (J=[↥X,↥d,~~~B,↥ps,~~~a,G]) (∀c u,c≠ps->H1 c⊂u->m c⊂u) (m ps⊂(.lst ((e.map λj=>f.getD j ⟨#[]⟩).map V.str))) (⇑e<=5) (∀j∈e,j<⇑f) ((t=0->e=[]/\a=0)/\(0<t->e≠[]))) #[_,[],0,rfl,λc u _ h=>h,t1,va _,(λj h=>nomatch h),λ_=>#[rfl,rfl],λh=>uf h ⋯] ?_ ?_ ?_]
 .rintro t J m _ ⟨G,e,a,rfl,n,_⟩;rwa[bV.of (n _ _ (l N) (s1 _ _ N))]
 .rintro t v J m hi D ⟨G,e,a,rfl,n,o,F,r,Y,I⟩;rw[vt]at hi D;rw[vv]at D;let⟨x,W,rfl⟩:=vg.mp D;have ej:x=f.getD (⇑f-1-t) ⟨#[]⟩:=by rw[vy,W];rfl
  subst ej;have y:⇑f-1-t<⇑f:=⋯
  clear W D;generalize ⇑f-1-t=j at y|-;have k':∀{c u},H c⊂u->m c⊂u:=λh=>n _ _ (l h) (s1 _ _ h)
  have g:=gb j y;exists#[_,_,rfl,.inl #[_,bV.of o,rfl],?_];rw[vt,vt];exists cA (λc=>?_) (λc=>?_)
  .exists#[d,_,rfl,p m j (k' M) y,?_];exists cA (λR=>?_) (λR=>?_)
   .exists#[.inl #[rfl,_,bV.of o],?_];exists#[ps,_,_,rfl,rfl,o,by rw[vt,vt];lia,?_];generalize L:upd m ps _=H2;have Z:H2 ps⊂(.lst (((e++[j]).map λj=>f.getD j ⟨#[]⟩).map V.str)):=by
     rw[vj,vj];rwa[Qc L]
    have C:∀c u,c≠ps->H1 c⊂u->H2 c⊂u:=λc u U h=>L▸(jh U).trans (n c u U h)
    clear L;exists#[d,_,rfl,p H2 j (C _ _ (l M) (s1 _ _ M)) y,?_];exists#[_,e++[j],_,rfl,C,Z,by rw[vn];show _+1<=5;lia,λj' O=>?_,λh=>uf h ⋯,λ_ h=>by simp at h];rcases vh.mp O with z | z
    .exact r j' z
    .rw[vo.mp z];rwa[y]
   .exists#[_,e,a,rfl,n,o,F,r,λh=>uf h ⋯,λ_ h=>?_];rcases Nat.eq_zero_or_pos t with z | z
    .let⟨_,rfl⟩:=Y z;rwa[R ⋯]
    .exact I z h
  .exists#[_,e,a,rfl,n,o,F,r,λh=>uf h ⋯,λ_ h=>?_];rw[h]at c;rwa[c (by show((0:Nat):Int)<5;lia)]
 .rintro J m ⟨G,e,a,rfl,n,o,F,r,Y,I⟩;rw[vt]at I;exists#[ps,_,rfl,.inl #[bV.of o,?_]];walk_at"f b hb H3 s3 t3";rwa[q b e H3 (λc u h=>s3 _ _ (n _ _ (l h) (s1 _ _ h))) t3 (I ⋯) F r]
def X5:2<*t.zg t.zk ["_law_pool","_law_many"] (fE):=by
 specialize T.jN.F.ok Kg;let⟨p,x,y,m,rfl,b,z,n,B,C,q⟩:=h;erw[_,#v["BXÙďĵ/ʝWď#ÖDÆď#%)'JÖWÍĢÏď#¨À%)ÖGÉÊď#%)W·ď#"],?_]
 rotate_right 201
 exists ck (bV.of b) rfl ?_;exists cA (λc=>?_) (λc=>?_)
 .have e:fF x y m=(x%m,x/m,y):=vd ⋯;rw[e]at q;exists ck (bV.of b) rfl ?_;exists ck (bV.of b) rfl ?_;exists#[p,_,_,0,rfl,rfl,b,rfl,?_];ac_nf;rwa[q _ (λc u d h=>(jh d).trans h) jA]
 .have e:fF x y m=(fh ((y+m)*314159265358979323846264338327%(10^30+57)) m/1000%m,x,fh ((y+m)*314159265358979323846264338327%(10^30+57)) m):=vc ⋯;rw[e]at q;exists ck (bV.of b) rfl ?_;exists#[p,_,_,1,rfl,rfl,b,rfl,?_];have o:=ve ((y+m)*314159265358979323846264338327) (show(10^30+57:Int)≠0 by decide);have r:=vf ((y+m)*314159265358979323846264338327) (show(0:Int)<10^30+57 by decide);generalize(y+m)*314159265358979323846264338327%(10^30+57)=v at o r q|-;generalize a:upd H p _=H1;have f:H1 p⊂(.lst [.int x,.int v]):=Qc a;have k:∀c u,c≠p->H c⊂u->H1 c⊂u:=λc u d h=>a▸(jh d).trans h
  clear a;exists ck (bV.of f) rfl ?_;exists#[v,m,rfl,⋯,n,?_];exists#[p,_,_,1,rfl,rfl,f,rfl,?_];generalize a:upd H1 p _=H2;have g:H2 p⊂(.lst [.int x,.int (fh v m)]):=Qc a;have l:∀c u,c≠p->H c⊂u->H2 c⊂u:=λc u d h=>a▸(jh d).trans (k c u d h)
  clear a;exists ck (bV.of g) rfl ?_;ac_nf;rwa[q _ l g]
def WG:3<*t.ZO t.ZS ["_law_pool","_law_kind","_law_names","_law_movers","_law_bounds"] (gr):=by
 specialize T.YX.F.ok Jj;let⟨p,nl,ml,bd,x,y,kd,H0,am,L,v,G,b0,b1,b2,b3,b4,rfl,ep,y0,y1,M,N,n1,Bd,q⟩:=h;erw[_,#v["RXq#6.±ahčCÂ9(§hA'Xq#6<±ah)CbċĂgd/«ǣ²ŖòxñŗŘřyógôõs+²ŖòxñŗŘřyógôõLłN$#Ñ'űǤN$#UE±;jf±;J¥sah)ø±Uù±hA'ħwĬá]Ĩâ]f$ÿǣ²ŖòxñŗŘřyógôõā±$Ĕ2=&uŲĀ²ŖòxñŗŘřyógôõƈÃƉN$%#%l}đĩn=&uđƙntĘM-§ujf±ßK=&uHÕîA-bahčbċ-"],?_]
 rotate_right 507
 have aA:=N.tU;let⟨eb,ae,aq,ar,as,au,av,a9,aw,ax,ay⟩:=Bd;exists cA (λc=>?_) (λc=>?_)
 .exists ck (bV.of (M _ _ eb).2) rfl ?_;ac_nf;have r:=Jv (x:=x) (y:=y) a9;erw[p,x,y,_,rfl,ep,a9,⋯,y0,y1,λH1 x1 e1=>?_];have o:=JS (x:=x) (m:=b3) y0 y1;have o1:=M.ex x1;exists#[_,_,rfl,.inl #[_,bV.of (o1 _ _ N.en).2,rfl],?_];rw[vt];exists#[p,_,_,_,rfl,e1,⋯,⋯,o.1,o.2,λH2 x2 e2=>?_];have r2:=Jv (x:=(fF x y b3).2.1) (y:=(fF x y b3).2.2) (m:=(⇑v:Int)) ⋯;have o2:=o1.ex x2;generalize fF (fF x y b3).2.1 (fF x y b3).2.2 (⇑v:Int)=T2 at r2 e2|-;obtain⟨j,ej⟩:∃j:Nat,T2.1=(j:Int):=#[T2.1.toNat,⋯]
  rw[ej]at r2|-;have F:j<⇑v:=⋯
  erw[ck (bV.of (o2 _ _ N.en).2) (Zx F) ?_];exists#[ub,?_];walk_at"f b6 hb6 H6 s6 t6";rwa[q b6 (.again (1+(fF x y b3).1) j) H6 (x1.trans (x2.trans (.of s6))) t6 #[⋯,⋯,F]]
 exists cA (λc5=>?_) (λc5=>?_)
 .ac_nf;have r:=Jv (x:=x) (y:=y) (m:=5) ⋯;have o:=JS (x:=x) (m:=5) y0 y1;erw[p,x,y,_,rfl,ep,⋯,⋯,y0,y1,λH1 x1 e1=>?_];generalize fF x y 5=T at r o e1|-;have o1:=M.ex x1;exists#[_,rfl,⋯,⋯,?_];refine yg (λi ys C=>iR λ(f:L6) (x y:Int)=>iQ (ys=f.map (λj=>V.str (v.getD j ⟨#[]⟩))) (⇑f=i) (∀j∈f,j<⇑v) (Ex p H1 C) (C p⊂(.lst [.int x,.int y])) (0<=y/\y<10^30+57)) #[[],_,_,rfl,rfl,(λj h=>nomatch h),.refl _,e1,o] ?_ ?_
  .rintro i ys C hi ⟨f,x2,y2,rfl,il,F,xx,ai,yy⟩;have o2:=o1.ex xx;erw[Jo (S':=[none,some _,some _]) rfl ?_];exists dt ?_;exists#[_,_,rfl,.inl #[_,bV.of (o2 _ _ N.en).2,rfl],?_];rw[show(v.map V.str).length=⇑v from vt _];ac_nf;have r2:=Jv (x:=x2) (y:=y2) (m:=(⇑v:Int)) ⋯;have e:=JS (x:=x2) (m:=(⇑v:Int)) yy.1 yy.2;erw[p,x2,y2,_,rfl,ai,⋯,⋯,yy.1,yy.2,λH3 x3 e3=>?_];generalize fF x2 y2 (⇑v:Int)=T2 at r2 e e3|-;obtain⟨j,ej⟩:∃j:Nat,T2.1=(j:Int):=#[T2.1.toNat,⋯]
   rw[ej]at r2|-;have jn:j<⇑v:=⋯
   erw[ck (bV.of (o2.ex x3 _ _ N.en).2) (Zx jn) ?_];erw[by rw[vt];lia,f++[j],_,_,by rw[vj];rfl,by rw[vn,il];rfl,λZ g=>?_,xx.trans x3,e3,e];rcases vh.mp g with z | z
   .exact F Z z
   .rw[vo.mp z];rwa[jn]
  rintro ys H3 ⟨f,x3,y3,rfl,il,F,xx,az,yy⟩;erw[by rw[vt];lia,?_];walk_at"f b hb H4 s4 t4";exists#[b,_,rfl,.inl #[bV.of t4,?_]];walk_at"f b5 hb5 H5 s5 t5";exists#[uc,?_];walk_at"f b6 hb6 H6 s6 t6";erw[q b6 (.row f) H6 (x1.trans (xx.trans (.of (s4.trans (s5.trans s6))))) #[b5,t6,?_] #[λz=>?_,⋯,F]]
  .rw[s6 _ _ t5,v6];rfl
  .rw[z]at il;have:(0:Nat)=_:=il;lia
 exists#[va _,?_];walk_at"f ps hps H1 s1 t1";exists#[va _,?_];walk_at"f pu hpu H2 s2 t2";have a6:=s1.trans s2;have a2:ps≠p:=(je ep hps).symm;have ad:pu≠p:=(je (s1 _ _ ep) hpu).symm;have ac:∀{c u},H c⊂u->c≠ps:=λh=>je h hps
 have ao:pu≠ps:=(je t1 hpu).symm;ac_nf;have r:=Jv (x:=x) (y:=y) (m:=3) ⋯;have o:=JS (x:=x) (m:=3) y0 y1;erw[p,x,y,_,rfl,a6 _ _ ep,⋯,⋯,y0,y1,λH3 x3 e3=>?_];generalize fF x y 3=T at r o e3|-;have o3:Off p H0 H3:=λc u h=>#[(M c u h).1,x3 _ _ (M c u h).1 (a6 _ _ (M c u h).2)]
 have af:=x3 _ _ a2 (s2 _ _ t1);have ag:=x3 _ _ ad t2;have aj:∀{c u},c≠p->H c⊂u->H3 c⊂u:=λn h=>x3 _ _ n (a6 _ _ h)
 exists#[_,rfl,⋯,⋯,?_];erw[qY (λt σ C=>oO λ(o9 a4 a5:N3) (d:Addr) (f:L6) (D:L8) (x y:Int)=>pE (σ=[↥p,~~~kd,↥nl,↥ml,↥bd,none,none,↥ps,↥d,o9,a4,a5]) (d≠ps) (d≠p) (Ex p H C) (C ps⊂(.lst ((f.map λj=>v.getD j ⟨#[]⟩).map V.str))) (C d⊂(.lst (D.map V.str))) (C p⊂(.lst [.int x,.int y])) (0<=y) (y<10^30+57) (⇑f<=t) (⇑D<=8*t) (∀j∈f,j<⇑v) (i9 G f) (∀s,s∈D↔∃j∈f,s∈G.getD j [])) #[_,_,_,pu,[],[],_,_,rfl,ao,ad,λc u n h=>aj n h,af,ag,e3,o.1,o.2,vb _,vb _,(λj h=>nomatch h),#[(λj h=>nomatch h),.nil],λs=>#[(λh=>nomatch h),λ⟨j,h,_⟩=>nomatch h]] ?_ ?_]
 .rintro t σ H4 ht ⟨o9,a4,a5,d,f,D,x4,y4,rfl,a1,a0,B,I,a3,e4,R,S,il,ul,F,ap,J⟩;have t4:t<4:=⋯
  have o4:=M.ex B;exists#[_,_,rfl,.inl #[_,bV.of (o4 _ _ N.en).2,rfl],?_];rw[vt];ac_nf;have r2:=Jv (x:=x4) (y:=y4) (m:=(⇑v:Int)) ⋯;have e:=JS (x:=x4) (m:=(⇑v:Int)) R S;erw[p,x4,y4,_,rfl,e4,⋯,⋯,R,S,λH5 x5 e5=>?_];generalize fF x4 y4 (⇑v:Int)=T2 at r2 e e5|-;obtain⟨j,ej⟩:∃j:Nat,T2.1=(j:Int):=#[T2.1.toNat,⋯]
  rw[ej]at r2|-;have al:j<⇑v:=⋯
  have a7:=B.trans x5;have o5:=M.ex a7;have U:=x5 _ _ a2 I;have W:=x5 _ _ a0 a3;clear x5 B o4 I a3 e4 R S;let⟨ma,ak,X,an,mw⟩:=N.mv al;have aM:eZ (am.map V.ref) ((j:Nat):Int)=↥ma:=jS (by rw[vv,ak];rfl);exists ck (bV.of (o5 _ _ N.em).2) (aM) ?_;erw[ma,rfl,#[_,bV.of (o5 _ _ X).2],?_];erw[Jn (xs:=(G.getD j []).map V.str) (λi ys C=>ys=(((G.getD j []).take i).filter λs=>decide (s∈D)).map V.str/\H5=C) #[rfl,rfl] ?_ ?_ ?_]
  .rintro i ys C _ ⟨rfl,rfl⟩;rwa[bV.of (o5 _ _ X).2]
  .rintro i x ys C hx ⟨rfl,rfl⟩;rw[vv]at hx;let⟨k,aa,rfl⟩:=vg.mp hx;have ik:=(vx.mp aa).1;erw[Jo (S':=[none,some _]) rfl ?_];exists#[d,_,rfl,.inl (bV.of W),rfl,lP _,?_];rw[B3];ac_nf;rw[take_snoc aa,filter_append];have lf:⇑(((G.getD j []).take i).filter λs=>decide (s∈D))<=8:=vW (length_filter_le _ _) (by rw[vi];lia);refine cA (λc=>?_) (λc=>?_)
   .exists#[by rw[vt];lia,?_,rfl];rw[vj,v8,vd (vG c),filter_nil];rfl
   .refine#[?_,rfl];rw[v8,vc (by rw[vH c];rwa[vF]),filter_nil,append_nil]
  rintro ys C ⟨rfl,rfl⟩;rw[show((G.getD j []).map V.str).length=⇑(G.getD j []) from vt _,v5];have lf:⇑((G.getD j []).filter λs=>decide (s∈D))<=8:=vW (length_filter_le _ _) an;have wf:∀x∈(G.getD j []).filter (λs=>decide (s∈D)),Ws.fR x=true:=λx hx=>mw x (vP.mp hx).1
  erw[by rw[vt];lia,?_];walk_at"f p5 hp5 H6 s6 t6";have o6:=o5.ex (.of s6);exists ck (bV.of (o6 _ _ N.em).2) (aM) ?_;exists#[va _,?_];sleep 7;have O:=s6.trans s7;erw[_,_,.lst (s7 _ _ (o6 _ _ X).2) (zI _),sI t7,nu mw,nj,?_];rw[mY];exists mB (λd1=>?_) (λd1=>?_)
  .exists#[va _,?_];sleep 8;have l:=O.trans s8;have a8:=a7.trans (.of l);erw[_,_,.lst (s8 _ _ (s7 _ _ t6)) (zI _),sI t8,nu wf,nj,?_];rw[mY];exists cA (λd2=>?_) (λd2=>?_)
   .exists#[.inl #[rfl,_,bV.of (l _ _ U)],?_];ac_nf;have o8:=M.ex a8;erw[ck (bV.of (o8 _ _ N.en).2) (Zx al) ?_];exists#[ps,_,_,rfl,rfl,l _ _ U,by rw[vt,vt];lia,?_];generalize eG:upd H8 ps _=H9;have e9:H9 ps⊂(.lst (((f++[j]).map λj=>v.getD j ⟨#[]⟩).map V.str)):=by
     rw[vj,vj];rwa[Qc eG]
    have k9:∀c u,c≠ps->H8 c⊂u->H9 c⊂u:=λc u hc h=>eG▸(jh hc).trans h
    clear eG;have n9:∀{c u},H0 c⊂u->H9 c⊂u:=λ{c u} h=>k9 _ _ (ac (M _ _ h).2) (o8 _ _ h).2
    exists ck (bV.of (n9 N.em)) (aM) ?_;erw[d,ma,_,_,rfl,rfl,k9 _ _ a1 (l _ _ W),n9 X,by rw[vt,vt];lia,?_];sleep 10;ac_nf;have ah:=s10 _ _ (k9 _ _ a2.symm (l _ _ e5));erw[_,_,_,p10,f++[j],D++G.getD j [],_,_,rfl,(je e9 hp10).symm,(je (k9 _ _ a2.symm (l _ _ e5)) hp10).symm,λc u n h=>s10 _ _ (k9 _ _ (ac h) (a8 _ _ n h)),s10 _ _ e9,by rw[vj];rwa[t10],ah,e.1,e.2,by rw[vn];show _+1<=_;lia,by rw[vn];lia,λZ g=>?_,#[λZ g=>?_,List.pairwise_append.mpr #[ap.2,pairwise_singleton ..,λa ha b hb s Y ab=>?_]],λs=>?_]
    .rcases vh.mp g with z | z
     .exact F Z z
     .rw[vo.mp z];rwa[al]
    .rcases vh.mp g with z | z
     .exact ap.1 Z z
     .rw[vo.mp z];rwa[d1]
    .rw[vo.mp hb]at ab;have:s∈(G.getD j []).filter λs=>decide (s∈D):=vP.mpr #[ab,vG ((J s).mpr #[a,ha,Y])]
     rw[d2]at this;cases this
    .rw[vh,J];constructor
     .rintro(⟨Z,g,Y⟩ | Y)
      .exact#[Z,mem_append_left _ g,Y]
      .exact#[_,mem_append_right _ vq,Y]
     .rintro⟨Z,g,Y⟩;rcases vh.mp g with z | z
      .exact .inl #[Z,z,Y]
      .rw[vo.mp z]at Y;rwa[.inr Y]
   .ac_nf;rwa[_,_,_,d,f,D,_,_,rfl,a1,a0,a8,l _ _ U,l _ _ W,l _ _ e5,e.1,e.2,⋯,⋯,F,ap,J]
  .ac_nf;rwa[_,_,_,d,f,D,_,_,rfl,a1,a0,a7.trans (.of O),O _ _ U,O _ _ W,O _ _ e5,e.1,e.2,⋯,⋯,F,ap,J]
 rintro σ H4 ⟨o9,a4,a5,d,f,D,x4,y4,rfl,a1,a0,B,I,a3,e4,R,S,il,ul,F,ap,J⟩;exists#[_,_,rfl,.inl #[_,bV.of I,rfl],?_];rw[vt,vt];exists cA (λc2=>?_) (λc2=>?_)
 .ac_nf;have o4:=M.ex B;erw[ck (bV.of (o4 _ _ eb).2) rfl ?_];ac_nf;have r2:=Jv (x:=x4) (y:=y4) ae;erw[p,x4,y4,_,rfl,e4,⋯,⋯,R,S,λH5 x5 e5=>?_];exists#[uc,?_];walk_at"f b6 hb6 H6 s6 t6";rwa[q b6 (.hold (1+(fF x4 y4 b0).1)) H6 (B.trans (x5.trans (.of s6))) t6 #[⋯,⋯]]
 exists#[ps,_,rfl,.inl #[bV.of I,?_]];walk_at"f b5 hb5 H5 s5 t5";exists#[uc,?_];walk_at"f b6 hb6 H6 s6 t6";rwa[q b6 (.side f) H6 (B.trans (.of (s5.trans s6))) #[b5,t6,s6 _ _ t5] #[⋯,⋯,F,ap.n N.il]]
def kW:4<*t.QV t.QX ["_law_pool","_law_names","_law_movers","_law_limbs","_law_bounds"] (iG):=by
 specialize T.Z0.F.ok JR;let⟨p,nl,ml,pl,bd,x,y,H0,aa,ac,F,X,Ms,b0,b1,b2,b3,b4,rfl,ep,y0,y1,of,N,R,Bd,q⟩:=h;erw[_,#v["6.Śh)RH}Ù(đĩn#Ýʠʡ%(#'*><Śah=*h)JXÕî(6EŚi&hA&CÄ¶9-hč+Xq(6fŚßÇµ999¬œ#­v)CÂ9=KhAK+b+"],?_]
 rotate_right 504
 have ad:=N.tU;let⟨eb,l,n,o,u,S,a0,a1,a2,a3,a4⟩:=Bd;ac_nf;have r:=Jv (x:=x) (y:=y) (m:=8) ⋯;have b:=JS (x:=x) (m:=8) y0 y1;erw[p,x,y,_,rfl,ep,⋯,⋯,y0,y1,λH1 x1 e1=>?_];generalize fF x y 8=T at r b e1|-;have o1:=of.ex x1;exists cA (λc=>?_) (λc=>?_)
 .exists#[va _,?_];walk_at"f e3 he3 H3 s3 t3";have o3:=o1.ex (.of s3);erw[_,_,.lst (o3 _ _ N.en).2 (zI _),sI t3,nu N.w,nj,?_];rw[mY];exists mB (λd=>?_) (λd=>?_)
  .ac_nf;rwa[p,nl,ml,bd,_,_,_,H0,aa,_,X,Ms,b0,b1,b2,b3,b4,rfl,s3 _ _ e1,b.1,b.2,o3,N,length_pos_iff.mpr d,#[eb,l,n,o,u,S,a0,a1,a2,a3,a4],λa f H' x' hf ab=>q a f H' (x1.trans ((Ex.of s3).trans x')) hf ab]
  .ac_nf;have G:=Jv (x:=T.2.1) (y:=T.2.2) (m:=2) ⋯;have e:=JS (x:=T.2.1) (m:=2) b.1 b.2;erw[p,_,_,_,rfl,s3 _ _ e1,⋯,⋯,b.1,b.2,λH4 Z U=>?_];generalize fF T.2.1 T.2.2 2=T2 at G e U|-;have o4:=o3.ex Z;let⟨L,C,B,a5⟩:=rM (b2:=b2) (b3:=b3) (b4:=b4) #[l,n] #[o,u] G.1 G.2;erw[ck (bV.of (o4 _ _ eb).2) (C) ?_];ac_nf;have r3:=Jv (x:=T2.2.1) (y:=T2.2.2) (m:=L) B;erw[p,_,_,_,rfl,U,⋯,⋯,e.1,e.2,λH5 x5 W=>?_];exists cA (λc3=>?_) (λc3=>?_)
   .exact uf c3 ⋯
   exists cA (λc4=>?_) (λc4=>?_)
   .exact uf c4 ⋯
   exists#[uc,?_];walk_at"f b6 hb6 H6 s6 t6";rwa[q b6 (.hold (1+(fF T2.2.1 T2.2.2 L).1)) H6 (x1.trans ((Ex.of s3).trans (Z.trans (x5.trans (.of s6))))) t6 #[⋯,⋯]]
 erw[gC ?_];ac_nf;have G:=Jv (x:=T.2.1) (y:=T.2.2) (m:=2) ⋯;have e:=JS (x:=T.2.1) (m:=2) b.1 b.2;erw[p,_,_,_,rfl,e1,⋯,⋯,b.1,b.2,λH4 Z U=>?_];generalize fF T.2.1 T.2.2 2=T2 at G e U|-;have o4:=o1.ex Z;let⟨L,C,B,a5⟩:=rM (b2:=b2) (b3:=b3) (b4:=b4) #[l,n] #[o,u] G.1 G.2;erw[ck (bV.of (o4 _ _ eb).2) (C) ?_];ac_nf;have r3:=Jv (x:=T2.2.1) (y:=T2.2.2) (m:=L) B;have g:=JS (x:=T2.2.1) (m:=L) e.1 e.2;erw[p,_,_,_,rfl,U,⋯,⋯,e.1,e.2,λH5 x5 W=>?_];generalize fF T2.2.1 T2.2.2 L=T3 at r3 g W|-;have o5:=o4.ex x5;have I:=x1.trans (Z.trans x5);have l1:=R.l1;have a9:=R.la.1;have l8:=N.l8;rw[show(bQ F).length=⇑F from vt _]at l8;exists cA (λc3=>?_) (λc3=>?_)
 .exists#[_,_,rfl,.inl #[_,bV.of (o5 _ _ R.el).2,rfl],?_];rw[vt,a9];ac_nf;have O:=Jv (x:=T3.2.1) (y:=T3.2.2) (m:=(⇑F:Int)) ⋯;have J:=JS (x:=T3.2.1) (m:=(⇑F:Int)) g.1 g.2;erw[p,_,_,_,rfl,W,⋯,⋯,g.1,g.2,λH6 x6 e6=>?_];generalize fF T3.2.1 T3.2.2 (⇑F:Int)=T4 at O J e6|-;obtain⟨j,ej⟩:∃j:Nat,T4.1=(j:Int):=#[T4.1.toNat,⋯]
  rw[ej]at O|-;have jl:j<⇑F:=⋯
  have o6:=o5.ex x6;let⟨lk,a7,a6⟩:=R.la.get (vz jl);erw[ck (bV.of (o6 _ _ R.el).2) (jS (j:=j) (by rw[vv,a7];rfl)) ?_];exists dY (cw.of (o6 _ _ a6).2) rfl ?_;exists ck (bV.of (o6 _ _ eb).2) rfl ?_;ac_nf;have r5:=Jv (x:=T4.2.1) (y:=T4.2.2) (m:=b2) S;erw[p,_,_,_,rfl,e6,⋯,⋯,J.1,J.2,λH7 x7 e7=>?_];generalize fF T4.2.1 T4.2.2 b2=T5 at r5 e7|-;exists#[ua,?_];walk_at"f b6 hb6 H8 s8 t8";erw[q b6 (.rise F[j].1 T5.1 (1+T3.1)) H8 (I.trans (x6.trans (x7.trans (.of s8)))) t8 #[#[j,?_],r5.1,⋯,⋯,⋯]];unfold bQ;rw[vv,vz jl];rfl
 exists cA (λc4=>?_) (λc4=>?_)
 .exists#[ub,?_];walk_at"f b3' hb3' H6 s6 t6";exists#[nl,_,rfl,bV.of (s6 _ _ (o5 _ _ N.en).2),?_];walk_at"f b4' hb4' H7 s7 t7";have cl:=ZA (X.map V.str) none (some 1);rw[vt]at cl;erw[b3',b4',_,_,rfl,rfl,s7 _ _ t6,t7,by show 3+_<=sizeLine;lia,?_];walk_at"f b5' hb5' H8 s8 t8";have Y:=s6.trans (s7.trans s8);have n5:b5'≠p:=(je (s7 _ _ (s6 _ _ W)) hb5').symm;exists#[_,_,rfl,.inl #[_,bV.of t8,rfl],?_];ac_nf;have O:=Jv (x:=T3.2.1) (y:=T3.2.2) (m:=((([V.str "ding",V.str "dong",V.str "din"]++gQ (X.map V.str) none (some 1)).length:Nat):Int)) (by rw[vn];show 1<=(((3+_:Nat)):Int);lia);erw[p,_,_,_,rfl,Y _ _ W,by rw[vn];show 1<=(((3+_:Nat)):Int);lia,by rw[vn];show(((3+_:Nat)):Int)<=_;lia,g.1,g.2,λH9 x9 e9=>?_];generalize fF T3.2.1 T3.2.2 ((([V.str "ding",V.str "dong",V.str "din"]++gQ (X.map V.str) none (some 1)).length:Nat):Int)=T4 at O e9|-;have a8:∀v∈[V.str "ding",V.str "dong",V.str "din"]++gQ (X.map V.str) none (some 1),∃w:Str,v = .str w/\Ws.fR w=true:=λv hv=>by
   rcases vh.mp hv with z | z
   .rcases mem_cons.mp z with rfl | z
    .exact#[_,rfl,by trivial]
    .rcases mem_cons.mp z with rfl | z
     .exact#[_,rfl,by trivial]
     .rw[vo.mp z];rwa[_,rfl,by trivial]
   .let⟨w',D,rfl⟩:=vK.mp (C6 z);rwa[w',rfl,N.w w' D]
  let⟨w',D,ww⟩:=Cv (k:=T4.1) a8 O.1 O.2;erw[ck (bV.of (x9 _ _ n5 t8)) (D) ?_];exists#[ub,?_];walk_at"f b8 hb8 H10 s10 t10";rwa[q b8 (.ring w' (1+T3.1)) H10 (I.trans ((Ex.of Y).trans (x9.trans (.of s10)))) t10 #[⋯,⋯,ww]]
 exists#[uc,?_];walk_at"f b6 hb6 H6 s6 t6";rwa[q b6 (.hold (1+T3.1)) H6 (I.trans (.of s6)) t6 #[⋯,⋯]]
def kU:5<*t.QU t.QW ["_law_script","_law_many","_law_bounds"] (fy K):=by
 specialize T.ZZ.F.ok jD;let⟨a,bd,ns,B,b0,b1,b2,b3,b4,rfl,hS,au,m2,b6,Bd,q⟩:=h;erw[_,#v["61FÇ_·`ƜƝƞGĭĮ%))r5FÑ&)>.F;¥saÑ&)<Fk(3GśŜ*+Ñ&Ď>EFÑ&¨Ė)#ÛfFÑ&)øF;ÛùF;ĬFäĈįFs¨#<F6ËF`ƜƝƞ¾ĭĮ%+UƟFÇ_8Ë¾ÉÊ8Ë+ÓĒ8ËÀÖ)8Ɵ)rÌFÝʢʣ8Ɵ[u('|}´+#qKÌFb{ǥǦ[tĎ|TňGŝŞ8ÌtĎÌFb)Mu{ǧǨ8Ì[urİF¾śŜ*+|´+-İFi(W+A(M[8İMė38İ8Ìàt8İGŝŞ8Ìt33(ėpt=[#"],?_]
 rotate_right 314
 let⟨eb,aD,aE,aF,aG,al,aH,aI,aJ,am,an⟩:=Bd;exists#[a,ns,_,rfl,hS,au,⋯,?_];erw[_,rfl,?_];exists#[uc,?_];walk_at"f po hpo H1 s1 t1";generalize(if Pr.cell ns 0<0 then -Pr.cell ns 0 else Pr.cell ns 0)/2=x0 at t1;ac_nf;have r1:=Jv (x:=x0) (y:=7) (m:=3) ⋯;have y1:=JS (x:=x0) (y:=7) (m:=3) nofun nofun;erw[po,_,_,_,rfl,t1,⋯,⋯,⋯,⋯,λH2 x2 e2=>?_];generalize fF x0 7 3=T1 at r1 y1 e2|-;obtain⟨p,e3⟩:∃p:Nat,T1.1=(p:Int):=#[T1.1.toNat,⋯]
 have hp:p<3:=⋯
 have s2:bU H H2:=λc u h=>x2 _ _ (je h hpo) (s1 _ _ h)
 rw[e3];clear s1 x2;exists#[va _,?_];walk_at"f pl hpl H3 s3 t3";have a0:pl≠po:=(je e2 hpl).symm;ac_nf;have r2:=Jv (x:=T1.2.1) (y:=T1.2.2) (m:=8) ⋯;have y2:=JS (x:=T1.2.1) (m:=8) y1.1 y1.2;erw[po,_,_,_,rfl,s3 _ _ e2,⋯,⋯,y1.1,y1.2,λH4 x4 e4=>?_];generalize fF T1.2.1 T1.2.2 8=T2 at r2 y2 e4|-;have s4:bU H H4:=λc u h=>x4 _ _ (je h hpo) (s3 _ _ (s2 _ _ h))
 have t4:=x4 _ _ a0 t3;have av:H pl=none:=none_of s2 hpl;clear s2 s3 x4 t3 hpl;exists#[_,rfl,⋯,⋯,?_];erw[qY (λi σ H'=>nM λ(o6:N3) (D:L7) (o:L4) (x y:Int)=>sO (σ=[↥a,some (.int (B:Nat)),↥bd,↥po,some (.int (p:Nat)),↥pl,o6,none,none,none,none,none,none,none,none,none,none]) (bU H H') (H' pl⊂(.lst (D.map V.ref))) (bX (ft H') D o) (bQ o=nE p i) (⇑o=i) (∀q∈o,0<=q.2/\q.2<=10^18) (H' po⊂(.lst [.int x,.int y])) (0<=y/\y<10^30+57)) #[_,[],[],_,_,rfl,s4,t4,.nil,rfl,rfl,(λq h=>nomatch h),e4,y2] ?_ ?_]
 .rintro i σ H' hi ⟨o6,D,o,x,y,rfl,F,el,la,nm,ll,lh,ep,y0,a2⟩;have i4:i<8:=⋯
  have ax:=la.1;exists#[.inl #[rfl,_,bV.of el],?_];exists#[p,i,by rw[ux];rfl,hp,⋯,?_];exists ck (bV.of (F _ _ eb)) rfl ?_;ac_nf;have r3:=Jv (x:=x) (y:=y) (m:=b2) al;have y3:=JS (x:=x) (m:=b2) y0 a2;erw[po,_,_,_,rfl,ep,⋯,⋯,y0,a2,λH2 x2 e2=>?_];generalize fF x y b2=T3 at r3 y3 e2|-;have kp:∀c xs,H' c⊂.tup xs->H2 c⊂(.tup xs):=λc xs h=>x2 _ _ (Jz h ep λz=>by cases z) h
  have ap:=x2 _ _ a0 el;exists#[uc,?_];sleep 3;exists#[pl,_,_,rfl,rfl,s3 _ _ ap,by rw[vt];lia,?_];have kt:∀c xs,H3 c⊂.tup xs->upd H3 pl (.lst (D.map V.ref++[.ref p3])) c⊂(.tup xs):=λc xs h=>(jh (Jz h (s3 _ _ ap) λz=>by cases z)).trans h
  erw[_,D++[p3],o++[(iX p i,T3.1)],_,_,rfl,λc u h=>?_,by rw[jA,vj];rfl,(la.mono λc x h=>kt _ _ (s3 _ _ (kp _ _ h))).snoc (kt _ _ t3),?_,by rw[vn,ll];rfl,λq hq=>?_,(jh a0.symm).trans (s3 _ _ e2),y3]
  .exact(jh (je h av)).trans (s3 _ _ (x2 _ _ (je h hpo) (F _ _ h)))
  .rw[Co,<-nm];unfold bQ;rw[vj];rfl
  .rcases vh.mp hq with z | z
   .exact lh q z
   .rw[vo.mp z];rwa[r3.1,by show T3.1<=10^18;lia]
 rintro S' H5 ⟨o6,D,o,x,y,rfl,aA,aq,ad,nm,ll,lh,a3,y0,a2⟩;clear s4 t4 e4 e2 H2 H3 H4;have m1:1<=⇑o:=⋯
 have m4:⇑o<=8:=⋯
 replace nm:bQ o=nE p ⇑o:=by rw[nm,ll]
 let⟨ae,lW⟩:=Ej (m:=⇑o) hp ⋯;rw[<-nm]at ae lW;clear ll;have Ll:⇑(bQ o)=⇑o:=vt _;have ax:=ad.1;ac_nf;have r3:=Jv (x:=x) (y:=y) (m:=2*(B:Int)+2) ⋯;have y3:=JS (x:=x) (m:=2*(B:Int)+2) y0 a2;erw[po,_,_,_,rfl,a3,⋯,⋯,y0,a2,λH6 x6 e6=>?_];generalize fF x y (2*(B:Int)+2)=T3 at r3 y3 e6|-;have r4:=Jv (x:=T3.2.1) (y:=T3.2.2) (m:=2) ⋯;exists#[po,_,_,_,rfl,e6,⋯,⋯,y3.1,y3.2,λH2 x7 e7=>?_];generalize fF T3.2.1 T3.2.2 2=T4 at r4 e7|-;have F:bU H H2:=λc u h=>x7 _ _ (je h hpo) (x6 _ _ (je h hpo) (aA _ _ h))
 have el:=x7 _ _ a0 (x6 _ _ a0 aq);have la:bX (ft H2) D o:=ad.mono λc x h=>x7 _ _ (Jz h a3 λz=>by cases z) (x6 _ _ (Jz h a3 λz=>by cases z) h)
 clear aA aq ad x6 x7 e6 e7 a3 H5 H6;obtain⟨O,aO⟩:∃O:Nat,T3.1=(O:Int):=#[T3.1.toNat,⋯]
 rw[aO];generalize T4.1=en4;let⟨nd,nW⟩:=Ep (p:=p) (st:=9) (c:=O) (m:=⇑o) hp m1 ⋯ ⋯;have ng:∀{k:Nat},k<17->(n6 p 9 O ⇑o).getD k ⟨#[]⟩=iX p (nD 9 O ⇑o k):=λh=>DA h
 have nL:=DC (p:=p) (st:=9) (c:=O) (m:=⇑o);generalize n6 p 9 O ⇑o=names at nd nW ng nL;exists#[va _,?_];walk_at"f nl hnl H3 s3 t3";exists#[va _,?_];walk_at"f ml hml H4 s4 t4";ac_nf;walk_at"f d hd' H5 s5 t5";exists#[va _,?_];walk_at"f pp hpp H6 s6 t6";have aj:=s4.trans (s5.trans s6);have a8:=s3.trans aj;have BB:ny pl nl ml d pp D [] [] o names [] [] [] b4 H6:=by
  erw[#[aj _ _ t3,s6 _ _ (s5 _ _ t4),.nil,(λks hk=>nomatch hk),rfl,va _,⋯,(λx hx=>nomatch hx),lW],#[a8 _ _ el,la.mono λc x h=>a8 _ _ h,m1],s6 _ _ t5,t6,.nil,#[rfl,rfl,(λi f h=>by simp at h),λi h=>uf h (Nat.not_lt_zero i)],λj Y=>uf Y (Nat.not_lt_zero j),va _]
 have SS:pH pl nl ml pp bd []:=#[je el hnl,je (s3 _ _ el) hml,je (s5 _ _ (s4 _ _ (s3 _ _ el))) hpp,je t3 hml,je (s5 _ _ (s4 _ _ t3)) hpp,je (s5 _ _ t4) hpp,je (F _ _ eb) hnl,je (s3 _ _ (F _ _ eb)) hml,je (s5 _ _ (s4 _ _ (s3 _ _ (F _ _ eb)))) hpp,(λx hx=>nomatch hx)]
 have aS:H nl=none:=none_of F hnl;have aR:H ml=none:=none_of (F.trans s3) hml;have aQ:H d=none:=none_of (F.trans (s3.trans s4)) hd';have aT:H pp=none:=none_of (F.trans (s3.trans (s4.trans s5))) hpp;have aY:=F.trans a8;clear a8 aj t3 t4 t5 t6 el la F s3 s4 s5 s6 hnl hml hd' hpp;exists#[_,rfl,⋯,⋯,?_];refine qY (λi σ H'=>pF λ(o5 ah ai a6 R:N3) (M G:L7) (v:List Fn) (W:List L8) (X:L5)=>fq (σ=[↥a,some (.int (B:Nat)),↥bd,↥po,some (.int (p:Nat)),↥pl,o5,some (.int (O:Nat)),~~~en4,↥nl,↥ml,↥d,↥pp,ah,ai,a6,R]) (bU H H') (ny pl nl ml d pp D M G o names v W X b4 H') (pH pl nl ml pp bd G/\⇑v=i))
  #[_,_,_,_,_,[],[],[],[],[],rfl,aY,BB,SS,rfl] ?_ ?_
 .rintro i σ H7 hi ⟨o5,ah,ai,a6,R,M,G,v,W,X,rfl,F,C,S,fl⟩;have aV:i<17:=⋯
  have tl:⇑(names.take ⇑v)=⇑v:=by rw[vi];lia
  have b8:⇑M=⇑v:=C.pa.1.trans j3;have gl:=C.dk.gl;have Ml:⇑W=⇑v:=by have:=C.n.ml;lia
  have b7:⇑G=⇑v:=by have:=C.n.am.1;lia
  have U:(names.take ⇑v).Nodup:=nd.sublist (take_sublist _ _);have af:∀j,j<⇑v->1<=X∘j/\X∘j<=b4:=λj Y=>#[(C.dk.g j Y).1,C.gb j Y]
  exists#[a,ns,_,rfl,F.seq hS,au,⋯,?_];erw[_,rfl,?_];ac_nf;generalize(if Pr.cell ns (1+(0+(i:Int)))<0 then -Pr.cell ns (1+(0+(i:Int)))else Pr.cell ns (1+(0+(i:Int))))=num;erw[_,_,rfl,⋯,⋯,?_];have nb:=kR num (1+(0+(i:Int)));generalize fh num (1+(0+(i:Int)))=yo at nb|-;exists#[uc,?_];walk_at"f ow how Ha sa ta";exists#[λS' H'=>dH λ(xo:Int)=>dG (S'=[↥a,some (.int (B:Nat)),↥bd,↥po,some (.int (p:Nat)),↥pl,some (.int (0+(i:Int))),some (.int (O:Nat)),~~~en4,↥nl,↥ml,↥d,↥pp,~~~num,↥ow,a6,R]) (bU H7 H'/\H' ow⊂(.lst [.int xo,.int yo])),?_,?_]
  rotate_left
  .exists cA (λc=>?_) (λc=>?_)
   .exists#[ow,_,_,0,rfl,rfl,ta,rfl,?_];rwa[0,rfl,λc u h=>(jh (je h how)).trans (sa _ _ h),jA]
   .ac_nf;rwa[num,rfl,sa,ta]
  rintro S' Hb ⟨xo,rfl,sb,tb⟩;have ob:Off ow H7 Hb:=λc u h=>#[je h how,sb _ _ h]
  exists#[ow,nl,ml,pl,bd,xo,yo,H7,G,D,o,names.take ⇑v,W,b0,b1,b2,b3,b4,rfl,tb,nb.1,nb.2,ob,C.n,C.l,#[F _ _ eb,aD,aE,aF,aG,al,aH,aI,aJ,am,an],λar f0 H8 x8 aa N=>?_];have s8:bU H7 H8:=(ob.ex x8).same;rw[tl]at N;have C8:=C.same s8;exists#[λS' H'=>fW λ(fa:Addr) (f:Fn)=>mu (S'=[↥a,some (.int (B:Nat)),↥bd,↥po,some (.int (p:Nat)),↥pl,some (.int (0+(i:Int))),some (.int (O:Nat)),~~~en4,↥nl,↥ml,↥d,↥pp,~~~num,↥ow,↥fa,R]) (bU H8 H') (cf H' fa (cL (names.take ⇑v) f)/\dS (bQ o) (W.map (hH (bQ o))) ⇑v f),?_,?_]
  rotate_left
  .exists cA (λc=>?_) (λc=>?_)
   .exists cA (λc2=>?_) (λc2=>?_)
    .exists ck (bV.of (s8 _ _ (F _ _ eb))) rfl ?_;exists#[nl,d,names.take ⇑v,X,b4,rfl,C8.n.en,C8.ed,U,⋯,⋯,⋯,λj Y=>af j ⋯,λb is H9 s9 e9 ne l5 jl=>?_];exists#[uc,?_];walk_at"f fa hfa H10 s10 t10";ac_nf;rwa[fa,.row is,rfl,s9.trans s10,#[b,t10,s10 _ _ e9],ne,⋯,λj Y=>by have:=jl j Y;lia]
    .ac_nf;rwa[ar,f0,rfl,bU.refl _,aa,N]
   .ac_nf;rwa[ar,f0,rfl,bU.refl _,aa,N]
  rintro S' H9 ⟨as,f1,rfl,s9,ab,a1⟩;have C9:=C8.same s9;have ak:=F.trans (s8.trans s9);clear C8 C aa N s8 s9 F;exists#[λS' H'=>iR λ(fa:Addr) (f:Fn) (g:Int)=>mR (S'=[↥a,some (.int (B:Nat)),↥bd,↥po,some (.int (p:Nat)),↥pl,some (.int (0+(i:Int))),some (.int (O:Nat)),~~~en4,↥nl,↥ml,↥d,↥pp,~~~num,↥ow,↥fa,R]) (bU H9 H') (cf H' fa (cL (names.take ⇑v) f)) (dS (bQ o) (W.map (hH (bQ o))) ⇑v f) (fN X f g/\g<=b4),?_,?_]
  rotate_left
  .exists#[as,d,f1,names.take ⇑v,X,bQ o,W.map (hH (bQ o)),rfl,ab,C9.ed,U,⋯,by rw[tl];rwa[a1],λj Y=>by have:=af j ⋯;lia,λg H10 s10 lg=>?_];exists ck (bV.of (s10 _ _ (ak _ _ eb))) rfl ?_;exists cA (λc=>?_) (λc=>?_)
   .exists#[uc,?_];walk_at"f fa hfa H11 s11 t11";ac_nf;rwa[fa,.hold 1,1,rfl,s10.trans s11,t11,#[by decide,by decide],rfl,am]
   .ac_nf;rwa[as,f1,g,rfl,s10,cf.same s10 ab,a1,lg,⋯]
  rintro S' H10 ⟨fa,f,g,rfl,s10,hf,a7,lg,gb⟩;have n:=C9.same s10;have az:=ak.trans s10;clear C9 ab a1 s10 ak;exists#[.inl #[rfl,_,bV.of n.n.em],?_];exists#[fa,nl,ml,G,f,names.take ⇑v,W,bQ o,W.map (hH (bQ o)),rfl,hf,n.n.en,n.n.em,n.n.am,U,⋯,⋯,by rw[tl];rwa[a7],λks hk=>by have:=n.n.il.len hk;lia,λl ks H11 s11 hl el mv kl=>?_];exists#[ml,_,_,rfl,rfl,s11 _ _ n.n.em,by rw[vt];lia,?_];generalize I:upd H11 ml _=H12;have aK:H12 ml⊂(.lst ((G++[l]).map V.ref)):=by rw[vj];rwa[Qc I]
  have aw:∀c u,c≠ml->H11 c⊂u->H12 c⊂u:=λc u hc h=>I▸(jh hc).trans h
  clear I;have k2:∀c u,c≠ml->H10 c⊂u->H12 c⊂u:=λc u hc h=>aw c u hc (s11 _ _ h)
  have L:∀{c u},H10 c⊂u->l≠c:=λh=>(je h hl).symm
  have ao:=aw _ _ (L n.n.em) el;have a4:d≠ml:=Jz n.ed n.n.em (λz=>by cases z);have a5:d≠nl:=Jz n.ed n.n.en (λz=>by cases z);have ag:d≠pp:=Jz n.ed n.ep (λz=>by cases z);exists#[p,9+i,by rw[show(9+(0+(i:Int)))=((9+i:Nat):Int) by lia];rfl,hp,⋯,?_];exists#[λS' H'=>S'=[↥a,some (.int (B:Nat)),↥bd,↥po,some (.int (p:Nat)),↥pl,some (.int (0+(i:Int))),some (.int (O:Nat)),~~~en4,↥nl,↥ml,↥d,↥pp,~~~num,↥ow,↥fa,some (.str (names.getD ⇑v ⟨#[]⟩))]/\H12=H',?_,?_]
  rotate_left
  .have nk:=ng aV;rw[<-fl]at nk;exists cA (λc=>?_) (λc=>?_)
   .have ic:i=O:=⋯
    exists#[_,_,rfl,.inl #[_,bV.of (k2 _ _ S.lm n.l.el),rfl],?_];rw[vt,ax];ac_nf;rw[show(0+(i:Int))%(⇑o:Int)=((i%⇑o:Nat):Int) by rw[ux];rwa[(Int.natCast_emod _ _).symm]];have jm:=Nat.mod_lt i (show 0<⇑o by lia);let⟨lk,aU,aP⟩:=n.l.la.get (vz jm);have a9:H10 lk⊂(.tup [.str (o[i%⇑o]).1,.int (o[i%⇑o]).2]):=aP;erw[ck (bV.of (k2 _ _ S.lm n.l.el)) (jS (j:=i%⇑o) (by rw[vv,aU];rfl)) ?_];exists cg (k2 _ _ (Jz a9 n.n.em λz=>by cases z) a9) ?_;exists#[?_,rfl];have ew:(o[i%⇑o]).1=iX p (i%⇑o):=by
     have h1:(bQ o)[i%⇑o]?⊂(o[i%⇑o]).1:=by unfold bQ;rw[vv,vz jm];rfl
     rw[nm,Ei jm]at h1;rwa[(vL h1).symm]
    rw[nk,fl];unfold nD;rw[vd ic,ew]
   .exists#[?_,rfl];rw[nk,fl];unfold nD;rw[vc ⋯]
  rintro S' aZ ⟨rfl,rfl⟩;exists#[.inl #[rfl,_,bV.of (k2 _ _ S.nm n.n.en)],?_];exists#[nl,_,_,rfl,rfl,k2 _ _ S.nm n.n.en,by rw[vt];lia,?_];generalize I:upd H12 nl _=H13;have aL:H13 nl⊂(.lst ((names.take (⇑v+1)).map V.str)):=by
   rw[take_snoc (show names[⇑v]?⊂(names.getD ⇑v ⟨#[]⟩) by rw[vy,vz ⋯];rfl),vj];rwa[Qc I]
  have ac:∀c u,c≠nl->H12 c⊂u->H13 c⊂u:=λc u hc h=>I▸(jh hc).trans h
  clear I;have b5:eZ ((names.take (⇑v+1)).map V.str) (0+(i:Int))⊂(.str (names.getD ⇑v ⟨#[]⟩)):=by
   rw[<-fl,ux];erw[jS ?_];rw[vv,List.getElem?_take_of_lt ⋯,vy,vz ⋯];rfl
  have k3:∀c u,c≠ml->c≠nl->H10 c⊂u->H13 c⊂u:=λc u h1 h2 h=>ac c u h2 (k2 c u h1 h)
  exists#[.inl #[rfl,_,bV.of (k3 _ _ S.mp.symm S.np.symm n.ep)],?_];exists#[uc,?_];walk_at"f c hc H14 s14 t14";exists#[pp,_,_,rfl,rfl,s14 _ _ (k3 _ _ S.mp.symm S.np.symm n.ep),by rw[vt];lia,?_];generalize I:upd H14 pp _=H15;have aM:H15 pp⊂(.lst ((M++[c]).map V.ref)):=by rw[vj];rwa[Qc I]
  have Z:∀c u,c≠pp->H14 c⊂u->H15 c⊂u:=λc u hc h=>I▸(jh hc).trans h
  clear I;have k4:∀c u,c≠ml->c≠nl->c≠pp->H10 c⊂u->H15 c⊂u:=λc u h1 h2 h3 h=>Z c u h3 (s14 _ _ (k3 c u h1 h2 h))
  have kt:∀c xs,H10 c⊂.tup xs->H15 c⊂(.tup xs):=λc xs h=>k4 c _ (Jz h n.n.em λz=>by cases z) (Jz h n.n.en λz=>by cases z) (Jz h n.ep λz=>by cases z) h
  have aX:c≠pp:=(je (k3 _ _ S.mp.symm S.np.symm n.ep) hc).symm;exists#[fa,d,f,names.take ⇑v,X,bQ o,W.map (hH (bQ o)),rfl,cf.keep kt hf,k4 _ _ a4 a5 ag n.ed,U,⋯,by rw[tl];rwa[a7],λj Y=>by have:=af j ⋯;lia,λg' aC ay aW=>?_];obtain rfl:=lg.uniq aW;exists#[d,_,rfl,fV.k (k:=Sum.inr (names.getD ⇑v ⟨#[]⟩)) (ay _ _ (k4 _ _ a4 a5 ag n.ed)) (by rw[Dq ⋯];lia),?_];have xn:names.getD ⇑v ⟨#[]⟩∉names.take ⇑v:=λz=>by
   let⟨j,Y,e⟩:=mem_iff_getElem.mp z;rw[getElem_take]at e;have jl:j<⇑v:=by rw[tl]at Y;rwa[Y]
   have e2:names[j]?⊂(names.getD ⇑v ⟨#[]⟩):=by rw[vz ⋯,e]
   have e3:names[⇑v]?⊂(names.getD ⇑v ⟨#[]⟩):=by rw[vy,vz ⋯];rfl
   have:=jV nd e2;have:=jV nd e3;lia
  rw[Dr ⋯ xn];generalize I:upd aC d _=H17;have aN:H17 d⊂(.dK (ff (names.take (⇑v+1)) (X++[g]))):=by
   rw[take_snoc (show names[⇑v]?⊂(names.getD ⇑v ⟨#[]⟩) by rw[vy,vz ⋯];rfl)];rwa[Qc I]
  have J:∀c u,c≠d->H15 c⊂u->H17 c⊂u:=λc u hc h=>I▸(jh hc).trans (ay _ _ h)
  clear I;have aB:=n.add (fa:=fa) (l:=l) (c:=c) (f:=f) (ks:=ks) (g:=g) (H':=H17) S (by rw[<-WW a7];rwa[hf]) a7 mv lg gb an ⋯ ⋯ nW (λx u h1 h2 h3 h4 h=>J _ _ h4 (k4 _ _ h1 h2 h3 h)) (J _ _ a4.symm (Z _ _ S.mp (s14 _ _ (ac _ _ S.nm.symm aK)))) (J _ _ (L n.ed) (Z _ _ (L n.ep) (s14 _ _ (ac _ _ (L n.n.en) ao)))) (J _ _ a5.symm (Z _ _ S.np (s14 _ _ aL))) (J _ _ ag.symm aM) (J _ _ (Jz t14 (s14 _ _ (k3 _ _ a4 a5 n.ed)) λz=>by cases z) (Z _ _ aX t14)) aN;rwa[_,_,_,_,_,M++[c],G++[l],v++[f],W++[ks],X++[g],rfl,λx u h=>J _ _ (je h aQ) (k4 _ _ (je h aR) (je h aS) (je h aT) (az _ _ h)),aB,S.add #[L n.n.en,L n.n.em,L n.ep],by rw[vn,fl];rfl]
 rintro S' H7 ⟨o5,ah,ai,a6,R,M,G,v,W,X,rfl,F,C,S,fl⟩
 replace fl:⇑v=B+1:=⋯
 have gl:=C.dk.gl;have tl:⇑(names.take ⇑v)=⇑v:=by rw[vi];lia
 have U:(names.take ⇑v).Nodup:=nd.sublist (take_sublist _ _);exists#[uc,?_];walk_at"f b hbb H8 s8 t8";have C8:=C.same s8;exists ck (bV.of C8.n.en) (Zx (j:=B) ⋯) ?_;have g:=cY.k (k:=Sum.inr ((names.take ⇑v).getD B ⟨#[]⟩)) C8.ed;rw[kJ U ⋯ ⋯]at g;erw[d,_,rfl,g,?_];exists#[uc,?_];walk_at"f r hr' H9 s9 t9";rwa[q r b pl pp D M names o v _ X H9 (F.trans (s8.trans s9)) (by rw[show ⇑v-1=B by lia];rwa[t9]) ((C8.book t8).same s9) C.dk (C.dk.sn C.fl nd ae ⋯ ⋯ ⋯ lh) fl nL nd nW m1 ⋯ ae lW S.lp C.gb]
def X0:6<*t.yZ t.Yf ["_law_script","_law_many","_law_bounds"] (fy K):=by
 specialize T.wa.F.ok jQ;let⟨a,bd,ns,y,b0,b1,b2,b3,b4,rfl,hS,a1,m2,aQ,Bd,q⟩:=h;erw[_,#v["BHTǊ`ƜƝƞGĭĮ%)ÀĊʤʥ%'r1QGÉÊGÉÊGĭĮ%)))>5Q;¥saĉ&.Q6<QW¾ÉÊ&(Ďk*3GśŜ¤&(+>EQ;ÛfQ;øQäĈùQs¨#.Q6ĬQ¾ÉÊ¾ÉÊ¾ĭĮ%(((rįQÝʦʧt-K*'|}´(#qĉ&įQb{ǥǦ-[Ď|TňGŝŞė[ĎįQb)MK{ǧǨė-KrËQ¾śŜ¤&(|}´(W·&¨#qĉ&ËQi*W(A*M-8ËMu3=-(ėà[=-(GŝŞė[3Úup[=-#"],?_]
 rotate_right 311
 have as:=Bd;let⟨eb,aw,ax,ay,az,aA,aB,aC,aD,ak,al⟩:=Bd;exists#[a,ns,_,rfl,hS,a1,⋯,?_];erw[_,rfl,?_];exists cA (λc=>?_) (λc=>?_)
 .ac_nf;rwa[a,bd,ns,y,b0,b1,b2,b3,b4,rfl,hS,a1,m2,aQ,as,q]
 clear c;exists#[a,ns,_,rfl,hS,a1,⋯,?_];exists#[_,_,rfl,⋯,⋯,?_];exists#[_,_,rfl,⋯,⋯,?_];have hb:=kR (fh (Pr.cell ns 0) 0) 90;generalize fh (fh (Pr.cell ns 0) 0) 90=hd at hb|-;obtain⟨p,e3⟩:∃p:Nat,hd%3=(p:Int):=#[(hd%3).toNat,⋯]
 have hp:p<3:=⋯
 exists#[va _,?_];walk_at"f pl hpl H1 s1 t1";exists#[_,rfl,⋯,⋯,?_];erw[qY (λi σ H'=>lK λ(o5 o6:N3) (D:L7) (o:L4)=>rz (σ=[↥a,some (.int (y:Nat)),↥bd,~~~hd,↥pl,o5,o6,none,none,none,none,none,none,none]) (bU H H') (H' pl⊂(.lst (D.map V.ref))) (bX (ft H') D o) (bQ o=nE p i) (⇑o=i) (∀q∈o,0<=q.2/\q.2<=10^18)) #[_,_,[],[],rfl,s1,t1,.nil,rfl,rfl,(λq h=>nomatch h)] ?_ ?_]
 .rintro i σ H' hi ⟨o5,o6,D,o,rfl,F,Y,la,nm,ll,lh⟩;have i4:i<8:=⋯
  have aq:=la.1;exists#[_,_,rfl,⋯,⋯,?_];exists ck (bV.of (F _ _ eb)) rfl ?_;ac_nf;have v0:=ve (fh hd (200+(0+(i:Int)))) (show b2≠0 by lia);have v1:=vf (fh hd (200+(0+(i:Int)))) (show 0<b2 by lia);generalize fh hd (200+(0+(i:Int)))%b2=v at v0 v1|-;erw[.inl #[rfl,_,bV.of Y],?_];exists#[p,i,by rw[e3,ux];rfl,hp,⋯,?_];exists#[uc,?_];sleep 3;exists#[pl,_,_,rfl,rfl,s3 _ _ Y,by rw[vt];lia,?_];have kt:∀c xs,H3 c⊂.tup xs->upd H3 pl (.lst (D.map V.ref++[.ref p3])) c⊂(.tup xs):=λc xs h=>(jh (Jz h (s3 _ _ Y) λz=>by cases z)).trans h
  erw[_,_,D++[p3],o++[(iX p i,v)],rfl,λc u h=>?_,by rw[jA,vj];rfl,(la.mono λc x h=>kt _ _ (s3 _ _ h)).snoc (kt _ _ t3),?_,by rw[vn,ll];rfl,λq hq=>?_]
  .refine(jh ?_).trans (s3 _ _ (F _ _ h));rwa[je h hpl]
  .rw[Co,<-nm];unfold bQ;rw[vj];rfl
  .rcases vh.mp hq with z | z
   .exact lh q z
   .rw[vo.mp z];rwa[v0,by show v<=10^18;lia]
 rintro S' H2 ⟨o5,o6,D,o,rfl,F,Y,la,nm,ll,lh⟩;have m1:1<=⇑o:=⋯
 have m4:⇑o<=8:=⋯
 replace nm:bQ o=nE p ⇑o:=by rw[nm,ll]
 let⟨ab,lW⟩:=Ej (m:=⇑o) hp ⋯;rw[<-nm]at ab lW;clear ll s1 t1 H1;have Ll:⇑(bQ o)=⇑o:=vt _;have aq:=la.1;obtain⟨cc,aM⟩:∃cc:Nat,∀i:Nat,i<=y->(i=cc↔((i:Int)=hd/48%((y:Int)+1)/\hd/24%2=0)):=by
  have u0:=ve (hd/48) (show((y:Int)+1)≠0 by lia);have u1:=vf (hd/48) (show(0:Int)<(y:Int)+1 by lia);by_cases c:hd/24%2=0
  .exact#[(hd/48%((y:Int)+1)).toNat,λi hi=>⋯]
  .exact#[100,λi hi=>⋯]
 let⟨nd,nW⟩:=Ep (p:=p) (st:=9) (c:=cc) (m:=⇑o) hp m1 ⋯ ⋯;have ng:∀{k:Nat},k<17->(n6 p 9 cc ⇑o).getD k ⟨#[]⟩=iX p (nD 9 cc ⇑o k):=λh=>DA h
 have nL:=DC (p:=p) (st:=9) (c:=cc) (m:=⇑o);generalize n6 p 9 cc ⇑o=names at nd nW ng nL;exists#[va _,?_];walk_at"f nl hnl H3 s3 t3";exists#[va _,?_];walk_at"f ml hml H4 s4 t4";ac_nf;walk_at"f d hd' H5 s5 t5";exists#[va _,?_];walk_at"f pp hpp H6 s6 t6";have ah:=s4.trans (s5.trans s6);have a5:=s3.trans ah;have BB:ny pl nl ml d pp D [] [] o names [] [] [] b4 H6:=by
  erw[#[ah _ _ t3,s6 _ _ (s5 _ _ t4),.nil,(λks hk=>nomatch hk),rfl,va _,⋯,(λx hx=>nomatch hx),lW],#[a5 _ _ Y,la.mono λc x h=>a5 _ _ h,m1],s6 _ _ t5,t6,.nil,#[rfl,rfl,(λi f h=>by simp at h),λi h=>uf h (Nat.not_lt_zero i)],λj X=>uf X (Nat.not_lt_zero j),va _]
 have SS:pH pl nl ml pp bd []:=#[je Y hnl,je (s3 _ _ Y) hml,je (s5 _ _ (s4 _ _ (s3 _ _ Y))) hpp,je t3 hml,je (s5 _ _ (s4 _ _ t3)) hpp,je (s5 _ _ t4) hpp,je (F _ _ eb) hnl,je (s3 _ _ (F _ _ eb)) hml,je (s5 _ _ (s4 _ _ (s3 _ _ (F _ _ eb)))) hpp,(λx hx=>nomatch hx)]
 have aK:H nl=none:=none_of F hnl;have aJ:H ml=none:=none_of (F.trans s3) hml;have aI:H d=none:=none_of (F.trans (s3.trans s4)) hd';have aL:H pp=none:=none_of (F.trans (s3.trans (s4.trans s5))) hpp;have aS:=F.trans a5;clear a5 ah t3 t4 t5 t6 Y la F s3 s4 s5 s6 hnl hml hd' hpp;exists#[_,rfl,⋯,⋯,?_];refine qY (λi σ H'=>rB λ(o5 ae af Z:N3) (M G:L7) (B:List Fn) (U:List L8) (W:L5)=>fq (σ=[↥a,some (.int (y:Nat)),↥bd,~~~hd,↥pl,o5,o6,↥nl,↥ml,↥d,↥pp,ae,af,Z]) (bU H H') (ny pl nl ml d pp D M G o names B U W b4 H') (pH pl nl ml pp bd G/\⇑B=i))
  #[_,_,_,_,[],[],[],[],[],rfl,aS,BB,SS,rfl] ?_ ?_
 .rintro i σ H7 hi ⟨o5,ae,af,Z,M,G,B,U,W,rfl,F,C,S,fl⟩;have aO:i<17:=⋯
  have tl:⇑(names.take ⇑B)=⇑B:=by rw[vi];lia
  have aV:⇑M=⇑B:=C.pa.1.trans j3;have gl:=C.dk.gl;have Ml:⇑U=⇑B:=by have:=C.n.ml;lia
  have aU:⇑G=⇑B:=by have:=C.n.am.1;lia
  have R:(names.take ⇑B).Nodup:=nd.sublist (take_sublist _ _);have ac:∀j,j<⇑B->1<=W∘j/\W∘j<=b4:=λj X=>#[(C.dk.g j X).1,C.gb j X]
  exists#[a,ns,_,rfl,F.seq hS,a1,⋯,?_];exists#[_,_,rfl,⋯,⋯,?_];exists#[_,_,rfl,⋯,⋯,?_];have nb:=kR (fh (Pr.cell ns (1+(0+(i:Int)))) (1+(0+(i:Int)))) (91+(0+(i:Int)));generalize fh (fh (Pr.cell ns (1+(0+(i:Int)))) (1+(0+(i:Int)))) (91+(0+(i:Int)))=num at nb|-;exists#[num,nl,ml,pl,bd,G,D,o,names.take ⇑B,U,b0,b1,b2,b3,b4,rfl,C.n,C.l,#[F _ _ eb,aw,ax,ay,az,aA,aB,aC,aD,ak,al],⋯,⋯,λan f0 H8 s8 a8 N=>?_];rw[tl]at N;have C8:=C.same s8;exists#[λS' H'=>fW λ(fa:Addr) (f:Fn)=>mu (S'=[↥a,some (.int (y:Nat)),↥bd,~~~hd,↥pl,some (.int (0+(i:Int))),o6,↥nl,↥ml,↥d,↥pp,~~~num,↥fa,Z]) (bU H8 H') (cf H' fa (cL (names.take ⇑B) f)/\dS (bQ o) (U.map (hH (bQ o))) ⇑B f),?_,?_]
  rotate_left
  .exists cA (λc=>?_) (λc=>?_)
   .exists cA (λc2=>?_) (λc2=>?_)
    .exists ck (bV.of (s8 _ _ (F _ _ eb))) rfl ?_;exists#[nl,d,names.take ⇑B,W,b4,rfl,C8.n.en,C8.ed,R,⋯,⋯,⋯,λj X=>ac j ⋯,λb is H9 s9 e9 ne l5 jl=>?_];exists#[uc,?_];walk_at"f fa hfa H10 s10 t10";ac_nf;rwa[fa,.row is,rfl,s9.trans s10,#[b,t10,s10 _ _ e9],ne,⋯,λj X=>by have:=jl j X;lia]
    .ac_nf;rwa[an,f0,rfl,bU.refl _,a8,N]
   .ac_nf;rwa[an,f0,rfl,bU.refl _,a8,N]
  rintro S' H9 ⟨ao,f1,rfl,s9,a9,a0⟩;have C9:=C8.same s9;have ai:=F.trans (s8.trans s9);clear C8 C a8 N s8 s9 F;exists#[λS' H'=>iR λ(fa:Addr) (f:Fn) (g:Int)=>mR (S'=[↥a,some (.int (y:Nat)),↥bd,~~~hd,↥pl,some (.int (0+(i:Int))),o6,↥nl,↥ml,↥d,↥pp,~~~num,↥fa,Z]) (bU H9 H') (cf H' fa (cL (names.take ⇑B) f)) (dS (bQ o) (U.map (hH (bQ o))) ⇑B f) (fN W f g/\g<=b4),?_,?_]
  rotate_left
  .exists#[ao,d,f1,names.take ⇑B,W,bQ o,U.map (hH (bQ o)),rfl,a9,C9.ed,R,⋯,by rw[tl];rwa[a0],λj X=>by have:=ac j ⋯;lia,λg H10 s10 lg=>?_];exists ck (bV.of (s10 _ _ (ai _ _ eb))) rfl ?_;exists cA (λc=>?_) (λc=>?_)
   .exists#[uc,?_];walk_at"f fa hfa H11 s11 t11";ac_nf;rwa[fa,.hold 1,1,rfl,s10.trans s11,t11,#[by decide,by decide],rfl,ak]
   .ac_nf;rwa[ao,f1,g,rfl,s10,cf.same s10 a9,a0,lg,⋯]
  rintro S' H10 ⟨fa,f,g,rfl,s10,hf,a4,lg,gb⟩;have n:=C9.same s10;have ar:=ai.trans s10;clear C9 a9 a0 s10 ai;exists#[.inl #[rfl,_,bV.of n.n.em],?_];exists#[fa,nl,ml,G,f,names.take ⇑B,U,bQ o,U.map (hH (bQ o)),rfl,hf,n.n.en,n.n.em,n.n.am,R,⋯,⋯,by rw[tl];rwa[a4],λks hk=>by have:=n.n.il.len hk;lia,λl ks H11 s11 hl Y mv kl=>?_];exists#[ml,_,_,rfl,rfl,s11 _ _ n.n.em,by rw[vt];lia,?_];generalize I:upd H11 ml _=H12;have aE:H12 ml⊂(.lst ((G++[l]).map V.ref)):=by rw[vj];rwa[Qc I]
  have ap:∀c u,c≠ml->H11 c⊂u->H12 c⊂u:=λc u hc h=>I▸(jh hc).trans h
  clear I;have k2:∀c u,c≠ml->H10 c⊂u->H12 c⊂u:=λc u hc h=>ap c u hc (s11 _ _ h)
  have L:∀{c u},H10 c⊂u->l≠c:=λh=>(je h hl).symm
  have am:=ap _ _ (L n.n.em) Y;have a2:d≠ml:=Jz n.ed n.n.em (λz=>by cases z);have a3:d≠nl:=Jz n.ed n.n.en (λz=>by cases z);have ad:d≠pp:=Jz n.ed n.ep (λz=>by cases z);exists#[p,9+i,by rw[e3,show(9+(0+(i:Int)))=((9+i:Nat):Int) by lia];rfl,hp,⋯,?_];exists#[λS' H'=>S'=[↥a,some (.int (y:Nat)),↥bd,~~~hd,↥pl,some (.int (0+(i:Int))),o6,↥nl,↥ml,↥d,↥pp,~~~num,↥fa,some (.str (names.getD ⇑B ⟨#[]⟩))]/\H12=H',?_,?_]
  rotate_left
  .have hz:=aM i ⋯;have nk:=ng aO;rw[<-fl]at nk;exists cA (λc=>?_) (λc=>?_)
   .exists cA (λc2=>?_) (λc2=>?_)
    .have ic:i=cc:=hz.mpr #[⋯,c2];exists#[_,_,rfl,.inl #[_,bV.of (k2 _ _ S.lm n.l.el),rfl],?_];rw[vt,aq];ac_nf;rw[show(0+(i:Int))%(⇑o:Int)=((i%⇑o:Nat):Int) by rw[ux];rwa[(Int.natCast_emod _ _).symm]];have jm:=Nat.mod_lt i (show 0<⇑o by lia);let⟨lk,aN,aH⟩:=n.l.la.get (vz jm);have a6:H10 lk⊂(.tup [.str (o[i%⇑o]).1,.int (o[i%⇑o]).2]):=aH;erw[ck (bV.of (k2 _ _ S.lm n.l.el)) (jS (j:=i%⇑o) (by rw[vv,aN];rfl)) ?_];exists cg (k2 _ _ (Jz a6 n.n.em λz=>by cases z) a6) ?_;exists#[?_,rfl];have ew:(o[i%⇑o]).1=iX p (i%⇑o):=by
      have h1:(bQ o)[i%⇑o]?⊂(o[i%⇑o]).1:=by unfold bQ;rw[vv,vz jm];rfl
      rw[nm,Ei jm]at h1;rwa[(vL h1).symm]
     rw[nk,fl];unfold nD;rw[vd ic,ew]
    .exists#[?_,rfl];rw[nk,fl];unfold nD;rw[vc (λz=>c2 (hz.mp z).2)]
   .exists#[?_,rfl];rw[nk,fl];unfold nD;rw[vc (λz=>c (by have:=(hz.mp z).1;lia))]
  rintro S' aT ⟨rfl,rfl⟩;exists#[.inl #[rfl,_,bV.of (k2 _ _ S.nm n.n.en)],?_];exists#[nl,_,_,rfl,rfl,k2 _ _ S.nm n.n.en,by rw[vt];lia,?_];generalize I:upd H12 nl _=H13;have a7:H13 nl⊂(.lst ((names.take (⇑B+1)).map V.str)):=by
   rw[take_snoc (show names[⇑B]?⊂(names.getD ⇑B ⟨#[]⟩) by rw[vy,vz ⋯];rfl),vj];rwa[Qc I]
  have aa:∀c u,c≠nl->H12 c⊂u->H13 c⊂u:=λc u hc h=>I▸(jh hc).trans h
  clear I;have aj:eZ ((names.take (⇑B+1)).map V.str) (0+(i:Int))⊂(.str (names.getD ⇑B ⟨#[]⟩)):=by
   rw[<-fl,ux];erw[jS ?_];rw[vv,List.getElem?_take_of_lt ⋯,vy,vz ⋯];rfl
  have k3:∀c u,c≠ml->c≠nl->H10 c⊂u->H13 c⊂u:=λc u h1 h2 h=>aa c u h2 (k2 c u h1 h)
  exists#[.inl #[rfl,_,bV.of (k3 _ _ S.mp.symm S.np.symm n.ep)],?_];exists ck (bV.of a7) (aj) ?_;exists#[uc,?_];walk_at"f c hc H14 s14 t14";exists#[pp,_,_,rfl,rfl,s14 _ _ (k3 _ _ S.mp.symm S.np.symm n.ep),by rw[vt];lia,?_];generalize I:upd H14 pp _=H15;have aF:H15 pp⊂(.lst ((M++[c]).map V.ref)):=by rw[vj];rwa[Qc I]
  have O:∀c u,c≠pp->H14 c⊂u->H15 c⊂u:=λc u hc h=>I▸(jh hc).trans h
  clear I;have k4:∀c u,c≠ml->c≠nl->c≠pp->H10 c⊂u->H15 c⊂u:=λc u h1 h2 h3 h=>O c u h3 (s14 _ _ (k3 c u h1 h2 h))
  have kt:∀c xs,H10 c⊂.tup xs->H15 c⊂(.tup xs):=λc xs h=>k4 c _ (Jz h n.n.em λz=>by cases z) (Jz h n.n.en λz=>by cases z) (Jz h n.ep λz=>by cases z) h
  have aR:c≠pp:=(je (k3 _ _ S.mp.symm S.np.symm n.ep) hc).symm;exists#[fa,d,f,names.take ⇑B,W,bQ o,U.map (hH (bQ o)),rfl,cf.keep kt hf,k4 _ _ a2 a3 ad n.ed,R,⋯,by rw[tl];rwa[a4],λj X=>by have:=ac j ⋯;lia,λg' av ag aP=>?_];obtain rfl:=lg.uniq aP;exists ck (bV.of (ag _ _ (O _ _ S.np (s14 _ _ a7)))) (aj) ?_;erw[d,_,rfl,fV.k (k:=Sum.inr (names.getD ⇑B ⟨#[]⟩)) (ag _ _ (k4 _ _ a2 a3 ad n.ed)) (by rw[Dq ⋯];lia),?_];have xn:names.getD ⇑B ⟨#[]⟩∉names.take ⇑B:=λz=>by
   let⟨j,X,e⟩:=mem_iff_getElem.mp z;rw[getElem_take]at e;have jl:j<⇑B:=by rw[tl]at X;rwa[X]
   have e2:names[j]?⊂(names.getD ⇑B ⟨#[]⟩):=by rw[vz ⋯,e]
   have e3:names[⇑B]?⊂(names.getD ⇑B ⟨#[]⟩):=by rw[vy,vz ⋯];rfl
   have:=jV nd e2;have:=jV nd e3;lia
  rw[Dr ⋯ xn];generalize I:upd av d _=H17;have aG:H17 d⊂(.dK (ff (names.take (⇑B+1)) (W++[g]))):=by
   rw[take_snoc (show names[⇑B]?⊂(names.getD ⇑B ⟨#[]⟩) by rw[vy,vz ⋯];rfl)];rwa[Qc I]
  have J:∀c u,c≠d->H15 c⊂u->H17 c⊂u:=λc u hc h=>I▸(jh hc).trans (ag _ _ h)
  clear I;have au:=n.add (fa:=fa) (l:=l) (c:=c) (f:=f) (ks:=ks) (g:=g) (H':=H17) S (by rw[<-WW a4];rwa[hf]) a4 mv lg gb al ⋯ ⋯ nW (λx u h1 h2 h3 h4 h=>J _ _ h4 (k4 _ _ h1 h2 h3 h)) (J _ _ a2.symm (O _ _ S.mp (s14 _ _ (aa _ _ S.nm.symm aE)))) (J _ _ (L n.ed) (O _ _ (L n.ep) (s14 _ _ (aa _ _ (L n.n.en) am)))) (J _ _ a3.symm (O _ _ S.np (s14 _ _ a7))) (J _ _ ad.symm aF) (J _ _ (Jz t14 (s14 _ _ (k3 _ _ a2 a3 n.ed)) λz=>by cases z) (O _ _ aR t14)) aG;rwa[_,_,_,_,M++[c],G++[l],B++[f],U++[ks],W++[g],rfl,λx u h=>J _ _ (je h aI) (k4 _ _ (je h aJ) (je h aK) (je h aL) (ar _ _ h)),au,S.add #[L n.n.en,L n.n.em,L n.ep],by rw[vn,fl];rfl]
 rintro S' H7 ⟨o5,ae,af,Z,M,G,B,U,W,rfl,F,C,S,fl⟩
 replace fl:⇑B=y+1:=⋯
 have gl:=C.dk.gl;have tl:⇑(names.take ⇑B)=⇑B:=by rw[vi];lia
 have R:(names.take ⇑B).Nodup:=nd.sublist (take_sublist _ _);exists#[uc,?_];walk_at"f b hbb H8 s8 t8";have C8:=C.same s8;exists ck (bV.of C8.n.en) (Zx (j:=y) ⋯) ?_;have g:=cY.k (k:=Sum.inr ((names.take ⇑B).getD y ⟨#[]⟩)) C8.ed;rw[kJ R ⋯ ⋯]at g;erw[d,_,rfl,g,?_];exists#[uc,?_];walk_at"f r hr' H9 s9 t9";rwa[q r b pl pp D M names o B _ W H9 (F.trans (s8.trans s9)) (by rw[show ⇑B-1=y by lia];rwa[t9]) ((C8.book t8).same s9) C.dk (C.dk.sn C.fl nd ab ⋯ ⋯ ⋯ lh) fl nL nd nW m1 ⋯ ab lW S.lp C.gb]
def wE:1<*t.qA t.qE ["_law_form_here","_law_heights"] (fJ):=by
 specialize T.Qw.F.ok qo;let⟨fa,z,L,x,v,n,h,rfl,r,J,Y,⟨a,f⟩,l8,v0,v1,n1,a0,q⟩:=h;erw[_,#v["6/ş;£1şº,s¨,®5şU.şÒǩğĠ#Ư(,Ï&DÆĄĢ°,&*,k'3(;Ơ3¬œ'­vZi'Z"],?_]
 rotate_right 204
 have U:=J.1;have hb:=J.2.1;have g:=jV Y f;have il:=(vx.mp f).1;have gb:=hb.getD a;exists#[va _,?_];walk_at"f rl hrl H1 s1 t1";exists cg (s1 _ _ r) ?_;erw[z,_,rfl,(J.same s1).get Y f,?_];exists cg (s1 _ _ r) ?_;exists#[_,rfl,⋯,⋯,?_];erw[qY (λi σ I=>lK λ(Z o5:N3) (m b:L7)=>σ=[↥fa,↥z,↥rl,some (.int (h∘a)),Z,o5]/\mU H L rl I m b (dI L x v n h i)) #[_,_,[],[],rfl,mU.nil s1 hrl t1] ?_ ?_]
 .rintro i σ I hi ⟨Z,o5,m,b,rfl,R⟩;have N:=R.s;have l1:=R.l1;have C:⇑(dI L x v n h i)=i:=by unfold dI;rw[vt,length_range]
  ac_nf;let⟨_,_,o,eo⟩:=J.same N;erw[z,_,rfl,.inr #[o,eo],?_];walk_at"f d hd' H2 s2 t2";exists cg (s2 _ _ (N _ _ r)) ?_;exists cg (s2 _ _ (N _ _ r)) ?_;exists cg (s2 _ _ (N _ _ r)) ?_;have kl:⇑(ff L h)=⇑L:=by unfold ff;rw[vt,length_zip,U,Nat.min_self]
  erw[d,_,rfl,fV.k (k:=Sum.inr x) t2 ⋯,?_];rw[Ds Y U.symm f];have M:bU I (upd H2 d (.dK (ff L (h.set a (h∘a+(v-h∘a)*(0+(i:Int))/n))))):=λc u hc=>(jh (je hc hd')).trans (s2 _ _ hc)
  have t3:upd H2 d (.dK (ff L (h.set a (h∘a+(v-h∘a)*(0+(i:Int))/n)))) d=_:=jA;generalize upd H2 d _=H3 at M t3|-;exists#[.inl #[rfl,_,bV.of (M _ _ R.e)],?_];exists#[va _,?_];walk_at"f w hw H4 s4 t4";exists#[uc,?_];walk_at"f c hc H5 s5 t5";have F:=s4.trans s5;have D:=M.trans F;exists#[rl,_,_,rfl,rfl,D _ _ R.e,by rw[vt];lia,?_];rw[ux]at t3;have rb:=Av gb #[v0,v1] n1 (j:=(i:Int)) ⋯ ⋯;have R':=R.push (h:=h.set a (h∘a+(v-h∘a)*(i:Int)/n)) (W:=[]) D hd' (F _ _ t3) (by rw[length_set,U]) (hb.set rb) (none_of M hw) (s5 _ _ t4) t5;erw[_,_,m++[d],b++[c],rfl,?_];have S:dI L x v n h (i+1)=dI L x v n h i++[(h.set a (h∘a+(v-h∘a)*(i:Int)/n),[])]:=by
   unfold dI;rw[range_succ,vj,g];rfl
  rw[S];rw[vj]at R';rwa[R']
 .rintro σ I ⟨Z,o5,m,b,rfl,R⟩;have nn:(n+1).toNat=n.toNat+1:=⋯
  rw[nn]at R;have C:⇑(dI L x v n h (n.toNat+1))=n.toNat+1:=by unfold dI;rw[vt,length_range]
  have l1:=R.l1;have l2:=R.l2;obtain⟨dl,B⟩:∃dl,m[n.toNat]?⊂dl:=#[_,vz ⋯]
  obtain⟨cl,y⟩:∃cl,b[n.toNat]?⊂cl:=#[_,vz ⋯]
  have hx:(dI L x v n h (n.toNat+1))[n.toNat]?⊂(h.set a v,[]):=by
   unfold dI;rw[vv,List.getElem?_range ⋯,g];show some (h.set a (Rp.ramp (h∘a) v n ((n.toNat:Nat):Int)),[])=_;rw[show((n.toNat:Nat):Int)=n by lia];unfold Rp.ramp;rw[Int.mul_ediv_cancel _ ⋯];congr 2;congr 1;lia
  let⟨wl,_,O,_⟩:=R.a _ _ _ _ B y hx;exists Bh ?_;exists#[rl,_,rfl,bV.of R.e,?_];rw[CB (n:=n.toNat) (by rw[vt];lia),<-map_take];walk_at"f l hl' H6 s6 t6";exists ck (bV.of (s6 _ _ R.e)) (Xx (n:=n.toNat+1) ⋯ (by rw[vt];lia) (by rw[vv,Nat.add_sub_cancel,y];rfl)) ?_;exists cg (s6 _ _ O) ?_;exists#[uc,?_];walk_at"f p hp H7 s7 t7";have G:=s6.trans s7;erw[m,R.nd,λd z=>?_,λH8 fz=>?_]
  .let⟨X,e⟩:=R.ym z;rwa[X,G _ _ e]
  .let⟨k1,k2⟩:=R.run G (s7 _ _ t6) t7 B hx fz;have S:(dI L x v n h (n.toNat+1)).take n.toNat=dI L x v n h n.toNat:=by
    unfold dI;rw[<-map_take,List.take_range,Nat.min_eq_left ⋯]
   rw[S]at k2;erw[q p H8 k1 ?_];rw[g];rwa[k2]
def WF{rd rl:Nat}(hrl:1<=rl)(Qn:rl<*t.qB t.qF ["_law_book_here","_law_name","_law_heights"] (ez rd)):(rl+1)<*t.ZN t.ZR ["_law_book_here","_law_names","_law_heights"] (gn rd):=by
 specialize T.Q3.F.ok jU;let⟨b,pl,pp,hd,nb,aB,aD,f,a,D,M,gs,E,h,k,is,rfl,B,X,hf,en,jm,Hh,q⟩:=h;erw[_,#v["Bħw1á]īâd«/$ÿǪ²úxûŠügšŢyţŤıāo$Ĕã#ųĀ²úxûŠügšŢyţŤıťʨO0ǫǬǭ^eµ#%'Ĉ5osa`ƍ$ŉŊĂʩ¯Ǫ²úxûŠügšŢyţŤı2&²úxûŠügšŢyţŤıűǤN$þŎN$%.o6<oÒǩğĠ'UEo;Î2&YfoøoUùo[ȎĒ(AK6ùoiK(4>Eoß-iK(4¥ʪ'ĬolTǮputp'tà+tputk*3+-Ơ3¬œ*­vZi*Z"],?_]
 rotate_right 309
 have sz:(50000:Nat)<sizeLine:=by decide
 have hk:=(vx.mp hf).1;have aJ:=X.m3;let⟨aE,_,ln⟩:=X.D.f k _ hf;let⟨i2,i8,a7,_⟩:=aE;let⟨⟨jx,az,aI⟩,ai⟩:=ln;have gk:=X.D.g k hk;have aH:=X.sF k hk;have hl:=Hh.1;have ay:⇑D<=61:=⋯
 have gj:∀j∈is,1<=gs∘j/\gs∘j<=90:=λj S=>#[(X.D.g j (by have:=a7 j S;lia)).1,X.sF j (by have:=a7 j S;lia)]
 exists#[nb,rfl,#[_,cw.of en],?_];erw[Z1 (xs:=is.map λj=>V.str (a.getD j ⟨#[]⟩)) (λi ys I=>dH λ(rs:L7)=>dG (ys=rs.map V.ref) (bU H I/\bX (λr j=>iS I (bQ f) r (dV (bQ f) a D gs E j h) (cx (E.getD j []) h)) rs (is.take i))) #[[],rfl,bU.refl _,.nil] ?_ ?_ ?_]
 .rintro i ys I _ ⟨rs,rfl,sm,al⟩;rwa[cw.of (sm _ _ en)]
 .rintro i v ys I hv ⟨rs,rfl,sm,al⟩;rw[vv]at hv;let⟨j,S,rfl⟩:=vg.mp hv;have U:=vm S;have a8:=al.1;rw[vi]at a8;erw[Jo (S':=[none,↥b,↥hd]) rfl ?_];exists dt ?_;exists#[b,pl,pp,hd,aB,aD,f,a,D,M,gs,E,h,j,rfl,B.same sm,X,by have:=a7 j U;lia,jm j U,Hh.same sm,λr H2 s2 RA=>?_];erw[by rw[vt];lia,rs++[r],by rw[vj];rfl,sm.trans s2,?_];rw[take_snoc S];rwa[(al.mono λr j=>iS.same s2).snoc RA]
 rintro ys H2 ⟨rs,rfl,aG,al⟩;rw[vt,v5]at al;have a8:=al.1;erw[by rw[vt];lia,?_];walk_at"f pr hpr H3 s3 t3";have ah:=al.mono λr j=>iS.same s3
 have ar:=aG.trans s3;have ac:=Hh.same ar;clear al;exists#[va _,?_];walk_at"f rl hrl H4 s4 t4";exists#[pr,rfl,#[_,bV.of (s4 _ _ t3)],?_];erw[Jn (xs:=rs.map V.ref) (λi ys I=>ys=((is.take i).map λj=>gs∘j).map V.int/\H4=I) #[rfl,rfl] ?_ ?_ ?_]
 .rintro i ys I _ ⟨rfl,rfl⟩;rwa[bV.of (s4 _ _ t3)]
 .rintro i v ys I hv ⟨rfl,rfl⟩;let⟨r,j,rfl,S,k1⟩:=ah.cD hv;let⟨ad,a6,ap,k1,k2,k3,k4⟩:=k1;have U:=vm S;have g:=gj j U;erw[Jo (S':=[none]) rfl ?_];exists dt ?_;exists cg (s4 _ _ k1) ?_;exists#[_,_,rfl,.inl #[_,bV.of (s4 _ _ k2),rfl],?_];erw[by rw[vt,vt,vi];lia,?_,rfl];have l3:=k3.1;rw[Jm]at l3;rw[take_snoc S,vj,vj,vt,l3,show(((gs∘j).toNat:Nat):Int)=gs∘j by lia];rfl
 rintro ys I ⟨rfl,rfl⟩;rw[show(rs.map V.ref).length=⇑is from(vt _).trans a8,v5];erw[by rw[vt,vt];lia,?_];walk_at"f pm hpm H5 s5 t5";exists#[pm,_,rfl,bV.of t5,by rw[vt];lia,λm hm mx=>?_];have em:m=gs∘k:=by
  let⟨j,S,rfl⟩:=vK.mp hm;have a1:=ai j S;have a2:=mx (gs∘jx) (vK.mpr #[jx,az,rfl]);lia
 subst em;exists#[_,rfl,⋯,⋯,?_];erw[qY (λi Z I=>rB λ(o5 o6 o7 o8 o9 O C:N3) (ds a0:L7)=>Z=[↥b,↥nb,↥hd,↥pr,↥rl,o5,o6,o7,o8,o9,O,C]/\mU H3 (bQ f) rl I ds a0 (fg (bQ f) a D gs E k h i)) #[_,_,_,_,_,_,_,[],[],rfl,mU.nil (s4.trans s5) hrl (s5 _ _ t4)] ?_ ?_]
 .rintro i Z H6 hi ⟨o5,o6,o7,o8,o9,O,C,ds,a0,rfl,R⟩;have sm:=R.s;have l1:=R.l1;have aq:⇑(fg (bQ f) a D gs E k h i)=i:=by unfold fg;rw[vt,length_range]
  let⟨_,hb,o,eo⟩:=ac.same sm;exists#[hd,_,rfl,.inr #[o,eo],?_];walk_at"f d hd7 H7 s7 t7";exists#[va _,?_];walk_at"f w0 hw0 H8 s8 t8";have as:=s7.trans s8;rw[ux];exists#[pr,rfl,#[_,bV.of (as _ _ (sm _ _ t3))],?_];refine JD (xs:=rs.map V.ref) (λu Z I=>rA λ(o8 o9 O C:N3) (w:Addr) (W:L8) (F:L5)=>rz (Z=[↥b,↥nb,↥hd,↥pr,↥rl,some (.int (i:Nat)),↥d,↥w,o8,o9,O,C]) (bU H6 I) (I d⊂(.dK (ff (bQ f) F))) (H6 w=none) (I w⊂(.lst (W.map V.str))) (⇑W<=5000*u) (F=((is.take u).map (dn gs (i:Int))).foldl (λh x=>dR (bQ f) a D gs E x.1 x.2 h) h/\W=((is.take u).map (dn gs (i:Int))).flatMap λx=>eD a D gs x.1 x.2))
   #[_,_,_,_,w0,[],h,rfl,as,s8 _ _ t7,none_of s7 hw0,t8,va _,rfl,rfl] ?_ ?_ ?_
  .rintro u Z I _ ⟨o8,o9,O,C,w,W,F,rfl,L,_⟩;rwa[bV.of (L _ _ (sm _ _ t3))]
  .rintro u v Z H9 hv ⟨o8,o9,O,C,w,W,F,rfl,L,ed,nw,ew,wl,eF,eW⟩;let⟨r,j,rfl,S,RA⟩:=ah.cD hv;have U:=vm S;have ul:=(vx.mp S).1;have jf:j<⇑D:=by have:=a7 j U;lia
   have g:=gj j U;have aF:=sm.trans L;let⟨ad,a6,ap,k1,k2,k3,k4⟩:=RA.same aF;have l3:=k3.1;rw[Jm]at l3;have fl:⇑F=⇑(bQ f):=by
    rw[eF,<-hl];rwa[xM]
   erw[JK (cw.of k1) ?_];exists#[λS' I=>fW λ(w' th:Addr)=>iQ (S'=[↥b,↥nb,↥hd,↥pr,↥rl,some (.int (i:Nat)),↥d,↥w',↥ad,↥a6,↥th,C]) (bU H6 I) (I d⊂(.dK (ff (bQ f) F))) (H6 w'=none) (I w'⊂(.lst ((W++eD a D gs (dn gs (i:Int) j).1 (dn gs (i:Int) j).2).map V.str))) (⇑(W++eD a D gs (dn gs (i:Int) j).1 (dn gs (i:Int) j).2)<=5000*(u+1)/\lZ I (bQ f) th (dR (bQ f) a D gs E (dn gs (i:Int) j).1 (dn gs (i:Int) j).2 h)),?_,?_]
   rotate_left
   .exists#[_,_,rfl,.inl #[_,bV.of k2,rfl],?_];rw[vt];exists cA (λc=>?_) (λc=>?_)
    .have c:(i:Int)<gs∘j:=⋯
     rw[IJ c];let⟨ra,an,dd,ww,n1,n2,n3⟩:=k3.get (ZG c);have n3:H9 ww⊂(.lst ((eD a D gs j (i:Int)).map V.str)):=n3;have wj:=X.w j (i:Int) jf ⋯;exists ck (bV.of k2) (jS (j:=i) (by rw[vv,an];rfl)) ?_;exists cg n1 ?_;exists ck (bV.of k2) (jS (j:=i) (by rw[vv,an];rfl)) ?_;exists cg n1 ?_;erw[w,ww,_,_,rfl,rfl,ew,n3,by rw[vt,vt];lia,?_];walk_at"f w2 hw2 H10 s10 t10";ac_nf;rwa[w2,dd,rfl,L.trans s10,s10 _ _ ed,none_of L hw2,by rw[t10,vj],by show(W++eD a D gs j (i:Int)).length<=_;rw[vn];lia,n2.same s10]
    .have c:gs∘j<=(i:Int):=⋯
     rw[II c];exists#[w,a6,rfl,L,ed,nw,?_,?_,?_]
     .rw[yx g.1,append_nil];rwa[ew]
     .rw[yx g.1,append_nil];lia
     .rw[QI];rwa[k4]
   rintro S' H10 ⟨w',th,rfl,ab,ed,aC,a5,av,HT⟩;have e1:(dn gs (i:Int) j).1=j:=by unfold dn;split<;>rfl
   have ag:=Hq X hf (h:=h) (t:=(i:Int)) S;rw[<-eF]at ag;rw[e1]at HT;have mr:=λ{q:Nat} (hq:q<⇑(bQ f))=>Nh X jf (t:=(dn gs (i:Int) j).2) ag hl hq
   have ao:((is.take (u+1)).map (dn gs (i:Int))).foldl (λh x=>dR (bQ f) a D gs E x.1 x.2 h) h=dR (bQ f) a D gs E j (dn gs (i:Int) j).2 F:=by
    rw[take_snoc S,vj,foldl_append,<-eF];show dR _ _ _ _ _ (dn gs (i:Int) j).1 _ _=_;rw[e1]
   have aw:W++eD a D gs (dn gs (i:Int) j).1 (dn gs (i:Int) j).2=((is.take (u+1)).map (dn gs (i:Int))).flatMap λx=>eD a D gs x.1 x.2:=by
    rw[take_snoc S,vj,flatMap_append,<-eW];simp
   rw[aw]at a5 av;generalize hG:dR (bQ f) a D gs E j (dn gs (i:Int) j).2 F=G at mr ao;generalize dR (bQ f) a D gs E j (dn gs (i:Int) j).2 h=tv at HT mr;have Gl:⇑G=⇑(bQ f):=by rw[<-hG,K0,fl]
   let⟨_,_,o',a4⟩:=ac.same (sm.trans ab);exists Iq ?_;exists#[hd,o',_,rfl,a4,?_];refine Hy (λv Z I=>fW λ(C:N3) (F':L5)=>iQ (Z=[↥b,↥nb,↥hd,↥pr,↥rl,some (.int (i:Nat)),↥d,↥w',↥ad,↥a6,↥th,C]) (bU H6 I) (∀c u,c≠d->H10 c⊂u->I c⊂u) (I d⊂(.dK (ff (bQ f) F'))) (F'.length=⇑(bQ f)) (∀q,q<⇑(bQ f)->F'∘q=if q<v then G∘q else F∘q))
    #[_,F,rfl,ab,λc u _ h=>h,ed,fl,λq _=>by rw[vc (Nat.not_lt_zero _)]] ?_ ?_ ?_
   .rintro v Z I _ ⟨C,F',rfl,J,kp,_⟩;rwa[kp _ _ (λz=>by rw[z,ed]at a4;cases a4) a4]
   .rintro v qv Z ae hq ⟨C,F',rfl,J,kp,N,Y,a3⟩;have kk:=Zc (nm:=bQ f) (gs:=h) hl.symm;have vl:v<⇑(bQ f):=by
     have:=(vx.mp hq).1;have e2:=congrArg List.length kk;rw[vt,vt]at e2;lia
    obtain⟨y,hy⟩:∃y,(bQ f)[v]?⊂y:=#[_,vz vl]
    have ek:qv.1=Sum.inr y:=by
     have e1:((ff (bQ f) h).map (·.1))[v]?⊂qv.1:=by rw[vv,hq];rfl
     rw[kk,vv,hy]at e1;rwa[(vL e1).symm]
    rw[ek];show cn 11 (.str y) _ _ _;have a9:lZ ae (bQ f) th tv:=by
     let⟨a1,a2,o2,e2⟩:=HT;rwa[a1,a2,o2,kp _ _ (λz=>by rw[z,ed]at e2;cases e2) e2]
    have af:=ac.same (sm.trans J);have kl:⇑(ff (bQ f) F')<=8:=by
     have e2:=congrArg List.length (Zc (nm:=bQ f) (gs:=F') Y.symm);rw[vt,vt]at e2;have:=X.l8;lia
    have mq:∀{q:Nat},q<⇑(bQ f)->G∘q=if tv∘q≠h∘q then tv∘q else F∘q:=λ{q} hq=>by
     rw[vy,mr hq];rfl
    exists#[th,_,rfl,a9.get X.i6 hy,?_];exists#[hd,_,rfl,af.get X.i6 hy,?_];exists mB (λc=>?_) (λc=>?_)
    .exists#[th,_,rfl,a9.get X.i6 hy,?_];exists#[d,_,rfl,fV.k (k:=Sum.inr y) N ⋯,?_];rw[Ds X.i6 Y.symm hy];erw[_,F'.set v (tv∘v),rfl,λc u hc=>(jh (je hc hd7)).trans (J _ _ hc),λc u hc h=>(jh hc).trans (kp c u hc h),jA,by rw[length_set,Y],λq hq=>?_];by_cases z:v=q
     .subst z;rw[vy,List.getElem?_set_self ⋯,vd (Nat.lt_succ_self _),mq hq,vd c];rfl
     .rw[vy,List.getElem?_set_ne z,<-vy,a3 q hq];by_cases z2:q<v
      .rw[vd z2,vd ⋯]
      .rw[vc z2,vc ⋯]
    .exists#[_,F',rfl,J,kp,N,Y,λq am=>?_];rw[a3 q am];by_cases z:q=v
     .subst z;rw[vc (Nat.lt_irrefl _),vd (Nat.lt_succ_self _),mq am,vc (λz=>z c)]
     .by_cases z2:q<v
      .rw[vd z2,vd ⋯]
      .rw[vc z2,vc ⋯]
   .rintro Z ae ⟨C,F',rfl,J,kp,N,Y,a3⟩;have kk:=congrArg List.length (Zc (nm:=bQ f) (gs:=h) hl.symm);rw[vt,vt]at kk;have eG:F'=G:=G4 Y Gl λq hq=>by rw[a3 q hq,vd ⋯]
    rw[eG]at N;rwa[_,_,_,_,w',_,G,rfl,J,N,aC,kp _ _ (λz=>by rw[z,ed]at a5;cases a5) a5,av,ao.symm,rfl]
  .rintro Z H9 ⟨o8,o9,O,C,w,W,F,rfl,L,ed,nw,ew,wl,eF,eW⟩;rw[show(rs.map V.ref).length=⇑is from(vt _).trans a8]at eF eW wl;rw[v5]at eF eW;let⟨c1,c2⟩:=Hl X hf h (t:=(i:Int)) ⋯ ⋯;rw[<-c1]at eF;rw[<-c2]at eW;subst eF;subst eW;have pb:=NO X.D X.md X.nd X.i6 X.l8 ay X.e (vb _) (j:=k) (t:=(i:Int)) hk ⋯ hb;exists#[.inl #[rfl,_,bV.of (L _ _ R.e)],?_];exists#[uc,?_];walk_at"f c hc H10 s10 t10";have aa:=L.trans s10;exists#[rl,_,_,rfl,rfl,aa _ _ R.e,by rw[vt];lia,?_];have R':=R.push aa hd7 (s10 _ _ ed) (K0.trans hl) pb nw (s10 _ _ ew) t10;erw[_,_,_,_,_,_,_,ds++[d],a0++[c],rfl,?_];have er:fg (bQ f) a D gs E k h (i+1)=fg (bQ f) a D gs E k h i++[(dR (bQ f) a D gs E k (i:Int) h,eD a D gs k (i:Int))]:=by
    unfold fg;rw[range_succ,vj];rfl
   rw[er];rw[vj]at R';rwa[R']
 .rintro Z H6 ⟨o5,o6,o7,o8,o9,O,C,ds,a0,rfl,R⟩;have nn:(1+gs∘k).toNat=(gs∘k).toNat+1:=⋯
  rw[nn]at R;have aq:⇑(fg (bQ f) a D gs E k h ((gs∘k).toNat+1))=(gs∘k).toNat+1:=by unfold fg;rw[vt,length_range]
  have l1:=R.l1;have l2:=R.l2;obtain⟨dl,ak⟩:∃dl,ds[(gs∘k).toNat]?⊂dl:=#[_,vz ⋯]
  obtain⟨cl,aj⟩:∃cl,a0[(gs∘k).toNat]?⊂cl:=#[_,vz ⋯]
  have hx:(fg (bQ f) a D gs E k h ((gs∘k).toNat+1))[(gs∘k).toNat]?⊂(cx (E.getD k []) h,eD a D gs k (gs∘k)):=by
   unfold fg;rw[vv,List.getElem?_range ⋯];show some (dR _ _ _ _ _ _ (((gs∘k).toNat:Nat):Int) _,eD _ _ _ _ (((gs∘k).toNat:Nat):Int))=_;rw[show(((gs∘k).toNat:Nat):Int)=gs∘k by lia,QI]
  let⟨wl,_,ax,_⟩:=R.a _ _ _ _ ak aj hx;exists Bh ?_;exists#[rl,_,rfl,bV.of R.e,?_];rw[CB (n:=(gs∘k).toNat) (by rw[vt];lia),<-map_take];walk_at"f l hl' H7 s7 t7";exists ck (bV.of (s7 _ _ R.e)) (Xx (n:=(gs∘k).toNat+1) ⋯ (by rw[vt];lia) (by rw[vv,Nat.add_sub_cancel,aj];rfl)) ?_;exists cg (s7 _ _ ax) ?_;exists#[uc,?_];walk_at"f p hp H8 s8 t8";have au:=s7.trans s8;erw[ds,R.nd,λd hd=>?_,λH9 fz=>?_]
  .let⟨aA,e⟩:=R.ym hd;rwa[aA,au _ _ e]
  .let⟨k1,k2⟩:=R.run au (s8 _ _ t7) t8 ak hx fz;have er:(fg (bQ f) a D gs E k h ((gs∘k).toNat+1)).take (gs∘k).toNat=dV (bQ f) a D gs E k h:=by
    unfold fg dV;rw[<-map_take,List.take_range,Nat.min_eq_left ⋯]
   rw[er]at k2;rwa[q p H9 (ar.trans k1) k2]
def W3:1<*t.qB t.qF ["_law_book_here","_law_name","_law_heights"] (ez 0):=by
 erw[T.qd.F.ok Js (λc H Q E h=>?_) (λb A a s H c Q E d h=>?_)]
 .exact uf h (DD)
 .exact uf h (DD)
def Fe{rd rl:Nat}(hrl:1<=rl)(W2:(rl+1)<*t.ZN t.ZR ["_law_book_here","_law_names","_law_heights"] (gn rd))(Qn:rl<*t.qB t.qF ["_law_book_here","_law_name","_law_heights"] (ez rd)):(rl+2)<*t.qB t.qF ["_law_book_here","_law_name","_law_heights"] (ez (rd+1)):=by
 specialize T.qd.F.ok Js;let⟨b,pl,pp,J,a6,R,O,d,N,M,W,E,h,j,rfl,B,X,jl,jm,Hh,q⟩:=h;erw[_,#v["r1~pÒǯ$ğĠ,#HĐťʫʬʭO0ʮʯʰ^e_&'XēĐĐJħw5á]gâ]/$ÿʱĞúīûöüǰĨǱā~$ĔsLĸ&×&ųĀĞúīûöüǰĨǱ3#;ÓĐÖ3'ª¸*)Ú'HĐťʲO0ʳʴʵ^eµ%¸'U.~¸|Đ.~Dʶª¸¸Ĉ5~ʷ(<~ĘőťʸʹƴO0ǫǬǭ^eµ%+'ÐĳE~ŸǓw/~$ƬŹ>5~ß*-Ú'"],?_]
 rotate_right 305
 have ad:⇑R=⇑N:=B.pa.1.trans j3;have af:=X.m3;have DB:zb H b pl pp a6 R O d N M W:=#[B,X.D,X.nd,X.md,⋯,⋯]
 let⟨g,hg⟩:=DB.forms;have ab:∀j,j<⇑N->N[j]?⊂(N.getD j (.hold 0)):=λj hj=>by rw[vy,vz hj];rfl
 exists cg B.t ?_;erw[pp,R,sD d g ⇑N,rfl,B.p,by unfold sD;rw[vt,length_range];rwa[ad],λi a q' h1 h2=>?_,?_]
 .have il:i<⇑N:=by have:=(vx.mp h1).1;lia
  rw[D7 il]at h2;cases h2;rwa[(hg i _ (ab i il)).1 a h1]
 walk_at"f fd hfd H1 s1 t1";ac_nf;have gF:cY H1 fd (.str (d.getD j ⟨#[]⟩)) (some (.ref (g j))):=by
  have z:=cY.k (k:=Sum.inr (d.getD j ⟨#[]⟩)) t1;rw[IQ X.nd X.md jl]at z;rwa[z]
 erw[fd,_,rfl,gF,?_];have F:=ab j jl;let⟨a0,mv,ln⟩:=X.D.f j _ F;have hF:=cf.same s1 (hg j _ F).2;have gj:=X.D.g j jl;have ag:=X.sF j jl;have D:=Hh.same s1;have G:=a0.js.2;generalize N.getD j (.hold 0)=f at F a0 mv ln hF G;cases f with
 | rise x v n=>
  have l:H1 (g j)⊂(.tup _):=hF;let⟨ex,v0,v1,n1,n2⟩:=a0;have ln:W∘j=n:=ln;let⟨eR,eS⟩:=Hk X F h;exists cg l ?_;exists cI ?_;exists#[_,_,_,x,v,n,h,rfl,l,D,X.i6,ex,X.l8,v0,v1,n1,⋯,λr I s2 RA=>?_];erw[q r I (s1.trans s2) ?_];rw[eR,eS];rwa[RA]
 | hold n=>
  have l:H1 (g j)⊂(.tup _):=hF;have ln:W∘j=n:=ln;let⟨eR,eS⟩:=Hi X F h;exists cg l ?_;exists bZ ?_;exists cg l ?_;exists cI ?_;erw[dt ?_];exists#[_,_,rfl,.inr #[_,cw.of l,rfl],?_];exists cg l ?_;exists#[_,rfl,⋯,⋯,?_];erw[yg (λu ys I=>dH λ(e:L7)=>dG (ys=e.map V.ref) (bU H1 I/\bX (gz I (bQ O)) e (List.replicate u (h,[])))) #[[],rfl,bU.refl _,.nil] ?_ ?_]
  .rintro u ys I hu ⟨e,rfl,p,y⟩;have l2:=y.1;rw[length_replicate]at l2;erw[Jo (S':=[none,↥J]) rfl ?_];exists dt ?_;exists#[va _,?_];sleep 3;exists#[uc,?_];sleep 4;erw[by rw[vt];lia,e++[p4],by rw[vj];rfl,p.trans (s3.trans s4),?_];rw[List.replicate_succ'];rwa[(y.mono λa x=>gz.same (s3.trans s4)).snoc #[J,p3,t4,D.same (p.trans (s3.trans s4)),s4 _ _ t3]]
  rintro ys I ⟨e,rfl,p,y⟩;have l2:=y.1;rw[length_replicate]at l2;erw[by rw[vt];lia,?_];walk_at"f rl hrl H3 s3 t3";have a3:=p.trans s3;have a5:=a3 _ _ l;exists#[λS' o=>S'=[↥b,some (.str (d.getD j ⟨#[]⟩)),↥J,some (.ref (g j)),↥rl,none,none,none]/\H3=o,?_,?_]
  rotate_left
  .exists cg a5 ?_;exists bZ ?_;ac_nf;rwa[rfl,rfl]
  rintro S' o ⟨rfl,rfl⟩;exists#[uc,?_];sleep 5;erw[q p5 H5 (s1.trans (a3.trans s5)) ?_];rw[eR,eS];rwa[rl,J,e,t5,s5 _ _ t3,y.mono λa x=>gz.same (s3.trans s5),D.same (a3.trans s5)]
 | ring x n=>
  have l:H1 (g j)⊂(.tup _):=hF;have ln:W∘j=n:=ln;let⟨eR,eS⟩:=Hj X F h;exists cg l ?_;exists bZ ?_;exists cg l ?_;exists bZ ?_;exists cg l ?_;exists cI ?_;exists#[_,_,rfl,.inr #[_,cw.of l,rfl],?_];exists cg l ?_;exists#[_,rfl,⋯,⋯,?_];erw[yg (λu ys I=>dH λ(e:L7)=>dG (ys=e.map V.ref) (bU H1 I/\bX (gz I (bQ O)) e (List.replicate u (h,[])))) #[[],rfl,bU.refl _,.nil] ?_ ?_]
  .rintro u ys I hu ⟨e,rfl,p,y⟩;have l2:=y.1;rw[length_replicate]at l2;erw[Jo (S':=[none,↥J]) rfl ?_];exists dt ?_;exists#[va _,?_];sleep 3;exists#[uc,?_];sleep 4;erw[by rw[vt];lia,e++[p4],by rw[vj];rfl,p.trans (s3.trans s4),?_];rw[List.replicate_succ'];rwa[(y.mono λa x=>gz.same (s3.trans s4)).snoc #[J,p3,t4,D.same (p.trans (s3.trans s4)),s4 _ _ t3]]
  rintro ys I ⟨e,rfl,p,y⟩;have l2:=y.1;rw[length_replicate]at l2;erw[by rw[vt];lia,?_];walk_at"f rl hrl H3 s3 t3";have a3:=p.trans s3;have a5:=a3 _ _ l;exists#[λS' o=>dH λL=>mu (S'=[↥b,some (.str (d.getD j ⟨#[]⟩)),↥J,some (.ref (g j)),↥rl,none,none,none]) (bU H1 o) (o rl⊂(.lst (L.map V.ref))/\bX (gz o (bQ O)) L ((List.replicate n.toNat (h,[])).set 0 (h,[x]))),?_,?_]
  rotate_left
  .exists cg a5 ?_;exists cI ?_;exists cg a5 ?_;exists#[ud,?_];walk_at"f w0 hw0 H4 s4 t4";exists#[uc,?_];walk_at"f c0 hc0 H5 s5 t5";have aa:=s4.trans s5;ac_nf;have up:∀{b' u},H5 b'⊂u->b'≠rl->upd H5 rl (.lst ((e.map V.ref).set 0 (.ref c0))) b'⊂u:=λY n=>(jh n).trans Y
   have sU:bU I (upd H5 rl (.lst ((e.map V.ref).set 0 (.ref c0)))):=λc u hc=>up (aa _ _ (s3 _ _ hc)) (je hc hrl)
   erw[rl,_,_,0,rfl,rfl,aa _ _ t3,(by unfold lS;rw[vd nofun,vd (by rw[vt];lia)];rfl),e.set 0 c0,rfl,λc u hc=>sU _ _ (p _ _ hc),by rw[jA,map_set],?_];erw[(y.mono λa x=>gz.same sU).set #[J,w0,up t5 (λz=>?_),(D.same p).same sU,up (s5 _ _ t4) (λz=>?_)]]
   .rw[z,aa _ _ t3]at t5;cases t5
   .rw[z,t3]at hw0;cases hw0
  rintro S' H6 ⟨L,rfl,s6,t6,ac⟩;exists#[uc,?_];sleep 7;erw[q p7 H7 (s1.trans (s6.trans s7)) ?_];rw[eR,eS];rwa[rl,J,L,t7,s7 _ _ t6,ac.mono λa x=>gz.same s7,D.same (s6.trans s7)]
 | side is=>
  let⟨U,l,Y⟩:=hF;exists cg l ?_;exists bZ ?_;exists cg l ?_;exists bZ ?_;exists cg l ?_;exists bZ ?_;exists cg l ?_;exists cI ?_;exists cg l ?_;exists#[b,pl,pp,J,U,a6,R,O,d,N,M,W,E,h,j,is,rfl,B.same s1,X,F,by rw[Y,v6];rfl,λi Z=>by have:=G i Z;lia,D,λr I s2 RA=>q r I (s1.trans s2) RA]
 | row is=>
  let⟨U,l,Y⟩:=hF;have ah:⇑is<=8:=a0.2.1;have G:∀i∈is,i<j:=G;have Y:H1 U⊂(.tup (is.map λj=>V.str (d.getD j ⟨#[]⟩))):=by rw[Y,v6];rfl
  let⟨eR,eS⟩:=I9 X F h;exists cg l ?_;exists bZ ?_;exists cg l ?_;exists bZ ?_;exists cg l ?_;exists bZ ?_;exists cg l ?_;exists bZ ?_;exists cg l ?_;exists#[λS' o=>S'=[↥b,some (.str (d.getD j ⟨#[]⟩)),↥J,some (.ref (g j)),none,↥U,none,none]/\H1=o,?_,?_]
  rotate_left
  .exists cg l ?_;exists bZ ?_;ac_nf;rwa[rfl,rfl]
  rintro S' o ⟨rfl,rfl⟩;exists#[va _,?_];sleep 5;have a2:=s1.trans s5;exists CO ?_;exists#[U,rfl,.inr #[#[_,cw.of (s5 _ _ Y)],?_]];erw[Dg (xs:=is.map λj=>V.str (d.getD j ⟨#[]⟩)) (λt σ o=>nM λ(o6 o7:N3) (rl m:Addr) (e:L7)=>mR (σ=[↥b,some (.str (d.getD j ⟨#[]⟩)),↥m,some (.ref (g j)),↥rl,↥U,o6,o7]) (bU H5 o) (o rl⊂(.lst (e.map V.ref))) (bX (gz o (bQ O)) e (gW (bQ O) d N W E ((is).take t) h)) (⇑e<=90*t/\lZ o (bQ O) m (((is).take t).foldl (λh j=>cx (E.getD j []) h) h))) #[_,_,p5,J,[],rfl,bU.refl _,t5,.nil,va _,D.same s5] ?_ ?_ ?_]
  .rintro t σ o _ ⟨o6,o7,rl,m,e,rfl,S,_⟩;rwa[cw.of (S _ _ (s5 _ _ Y))]
  .rintro t v σ H6 hv ⟨o6,o7,rl,m,e,rfl,S,e1,y,a8,C⟩;rw[vv]at hv;let⟨i,Z,rfl⟩:=vg.mp hv;have tl:=(vx.mp Z).1;have il:=G i (vm Z);exists#[b,pl,pp,m,a6,R,O,d,N,M,W,E,_,i,rfl,B.same (a2.trans S),X,⋯,⋯,C,λr H7 s7 RA=>?_];let⟨a9,a7,a1,k1,k2,k3,k4⟩:=RA;have l2:=k3.1;have g2:=X.sF i ⋯;rw[Jm]at l2;erw[JK (cw.of k1) ?_];exists#[rl,a9,_,_,rfl,rfl,s7 _ _ e1,k2,by rw[vt,vt];lia,?_];sleep 8;have a4:=s7.trans s8;refine#[_,_,p8,a7,e++a1,rfl,S.trans a4,by rw[t8,vj],?_,by rw[vn];lia,?_]
   .rw[take_snoc Z,WS];rwa[(y.mono λa x=>gz.same a4).app (k3.mono λa x=>gz.same s8)]
   .rw[take_snoc Z,foldl_append];rwa[k4.same s8]
  .rintro σ H6 ⟨o6,o7,rl,m,e,rfl,S,e1,y,a8,C⟩;rw[vt,v5]at y C;exists#[uc,?_];sleep 9;erw[q p9 H9 (a2.trans (S.trans s9)) ?_];rw[eR,eS];rwa[rl,m,e,t9,s9 _ _ e1,y.mono λa x=>gz.same s9,C.same s9]
 | again k i=>
  have l:H1 (g j)⊂(.tup _):=hF;let⟨k1,k2,ik⟩:=a0;have ln:W∘j=k*W∘i:=ln;have gi:=X.D.g i ⋯;have ai:k<=90:=by
   have:=Int.mul_le_mul_of_nonneg_left gi.1 (show 0<=k by lia);lia
  have G:∀i'∈List.replicate k.toNat i,i'<j:=λi' h'=>by rw[(List.mem_replicate.mp h').2];rwa[ik]
  have ae:⇑(List.replicate k.toNat i)=k.toNat:=length_replicate;let⟨eR,eS⟩:=FV X F h;exists cg l ?_;exists bZ ?_;exists cg l ?_;exists bZ ?_;exists cg l ?_;exists bZ ?_;exists cg l ?_;exists bZ ?_;exists cg l ?_;exists#[λS' o=>dH λU=>dG (S'=[↥b,some (.str (d.getD j ⟨#[]⟩)),↥J,some (.ref (g j)),none,↥U,none,none]) (bU H1 o/\o U⊂(.lst ((List.replicate k.toNat i).map λj=>V.str (d.getD j ⟨#[]⟩)))),?_,?_]
  rotate_left
  .exists cg l ?_;exists cI ?_;exists cg l ?_;exists#[ud,?_];sleep 3;exists cg (s3 _ _ l) ?_;erw[p3,_,_,rfl,rfl,t3,⋯,⋯,by show 1*_<=_;lia,?_];sleep 4;rw[Ga]at t4;ac_nf;rwa[p4,rfl,s3.trans s4,by rw[t4,List.map_replicate]]
  rintro S' H4 ⟨U,rfl,s4,Y⟩;exists#[va _,?_];sleep 5;have a2:=s1.trans (s4.trans s5);exists CO ?_;exists#[U,rfl,.inl #[#[_,bV.of (s5 _ _ Y)],?_]];erw[JD (xs:=(List.replicate k.toNat i).map λj=>V.str (d.getD j ⟨#[]⟩)) (λt σ o=>nM λ(o6 o7:N3) (rl m:Addr) (e:L7)=>mR (σ=[↥b,some (.str (d.getD j ⟨#[]⟩)),↥m,some (.ref (g j)),↥rl,↥U,o6,o7]) (bU H5 o) (o rl⊂(.lst (e.map V.ref))) (bX (gz o (bQ O)) e (gW (bQ O) d N W E ((List.replicate k.toNat i).take t) h)) (⇑e<=90*t/\lZ o (bQ O) m (((List.replicate k.toNat i).take t).foldl (λh j=>cx (E.getD j []) h) h))) #[_,_,p5,J,[],rfl,bU.refl _,t5,.nil,va _,(D.same s4).same s5] ?_ ?_ ?_]
  .rintro t σ o _ ⟨o6,o7,rl,m,e,rfl,S,_⟩;rwa[bV.of (S _ _ (s5 _ _ Y))]
  .rintro t v σ H6 hv ⟨o6,o7,rl,m,e,rfl,S,e1,y,a8,C⟩;rw[vv]at hv;let⟨i,Z,rfl⟩:=vg.mp hv;have tl:=(vx.mp Z).1;have il:=G i (vm Z);exists#[b,pl,pp,m,a6,R,O,d,N,M,W,E,_,i,rfl,B.same (a2.trans S),X,⋯,⋯,C,λr H7 s7 RA=>?_];let⟨a9,a7,a1,k1,k2,k3,k4⟩:=RA;have l2:=k3.1;have g2:=X.sF i ⋯;rw[Jm]at l2;erw[JK (cw.of k1) ?_];exists#[rl,a9,_,_,rfl,rfl,s7 _ _ e1,k2,by rw[vt,vt];lia,?_];sleep 8;have a4:=s7.trans s8;refine#[_,_,p8,a7,e++a1,rfl,S.trans a4,by rw[t8,vj],?_,by rw[vn];lia,?_]
   .rw[take_snoc Z,WS];rwa[(y.mono λa x=>gz.same a4).app (k3.mono λa x=>gz.same s8)]
   .rw[take_snoc Z,foldl_append];rwa[k4.same s8]
  .rintro σ H6 ⟨o6,o7,rl,m,e,rfl,S,e1,y,a8,C⟩;rw[vt,v5]at y C;exists#[uc,?_];sleep 9;erw[q p9 H9 (a2.trans (S.trans s9)) ?_];rw[eR,eS];rwa[rl,m,e,t9,s9 _ _ e1,y.mono λa x=>gz.same s9,C.same s9]
theorem yw:∀n,(1+2*n)<*t.qB t.qF ["_law_book_here","_law_name","_law_heights"] (ez n)
 | 0=>W3
 | n+1=>Fe (Nat.le_add_right _ _) (WF (Nat.le_add_right _ _) (yw n)) (yw n)
def SQ:37<*t.qB t.qF ["_law_book_here","_law_name","_law_heights"] (ez 18):=yw 18
def X6:38<*t.y9 t.Yi ["_law_book_here"] (iM):=by
 specialize T.wc.F.ok yE;let⟨b,L,pp,j,k,m,names,e,M,gs,E,rfl,B,X,Y,hb,q⟩:=h;erw[_,#v["Bő{ʺʻ%i,ZƠÒǯ$ğĠ,Y:ǲ/ǲCß#ª3';"],?_]
 rotate_right 102
 have C:⇑k=⇑e:=B.pa.1.trans j3;have Z:=X.m3;have a0:=X.sF (⇑e-1) ⋯;obtain⟨f,hf⟩:∃f,e[⇑e-1]?⊂f:=#[_,vz ⋯]
 let⟨la,v,fb,U,_⟩:=B.pa.get (J1 (names:=names) hf);exists cg B.t ?_;exists ck (bV.of B.p) (Xx (n:=⇑e) Y (by rw[vt];rwa[C]) (by rw[vv,v];rfl)) ?_;exists cg U ?_;exists Bh ?_;exists cg B.t ?_;exists#[L,j,m.map λq=>(q.1,V.int q.2),rfl,B.l,by rw[vt];rwa[B.la.1],λi a q' h1 I=>?_,?_]
 .rw[vv]at I;let⟨y,hy,rfl⟩:=vg.mp I;rwa[B.la.2 i a y h1 hy]
 rw[G2 X.i6];walk_at"f d hd H1 s1 t1";erw[[d],uo.mpr #[(λz=>nomatch z),nodup_nil],λc hc=>by rw[vo.mp hc];rwa[_,t1],λF G=>?_];let⟨o,W⟩:=G.2 d vq _ t1;have N:bU H F:=λc u hc=>(G.1 c λz=>by rw[vo.mp z,hd]at hc;cases hc).trans (s1 _ _ hc)
 have O:lZ F (bQ m) d (m.map (·.2)):=#[by unfold bQ;rw[vt,vt],hb,o,W]
 exists#[b,L,pp,d,j,k,m,names,e,M,gs,E,_,⇑e-1,rfl,B.same N,X,⋯,⋯,O,λr H3 s3 S=>?_];let⟨rl,p,D,k1,k2,J,k4⟩:=S;have l3:=J.1;rw[Jm]at l3;erw[JK (cw.of k1) ?_];exists#[va _,?_];walk_at"f w hw H4 s4 t4";exists#[uc,?_];walk_at"f c hc H5 s5 t5";exists#[ud,?_];walk_at"f l1 hl1 H6 s6 t6";have l:=s4.trans (s5.trans s6);erw[rl,l1,_,_,rfl,rfl,l _ _ k2,t6,by rw[vt];show _+1<=_;lia,?_];walk_at"f l2 hl2 H7 s7 t7";have g:=l.trans s7;erw[q l2 (D++[c]) H7 (N.trans (s3.trans g)) (by rw[t7,vj];rfl) ?_];rwa[(J.mono λa x=>gz.same g).snoc #[p,w,s7 _ _ (s6 _ _ t5),k4.same g,s7 _ _ (s6 _ _ (s5 _ _ t4))]]
def wA:1<*t.qy t.qC ["self"] (iC t.jE t.jF):=by
 specialize T.wY.ok wF;let⟨m,f,z,d,e,c,E,g,rfl,A,q⟩:=h;erw[_,#v["C@"],?_];erw[jC (S':=[some _]) rfl ?_]
 try dsimp only[dh,Cx.i7]
 let⟨a,b⟩:=A.ob;exists#[m,_,a,_,_,rfl,b,T.jL,T.Jc,zZ,?_];rwa[q]
def Lz:1<*t.Xv t.XL ["start","goal","beats","j"] (Pr.DO):=by
 erw[T.DZ.F.ok Mp (λf H Q E h=>?_) (λd A a s H f Q E i h=>?_)]
 .let⟨e,g,b,j,rfl,c,q⟩:=h;rfl
 let⟨e,g,b,j,rfl,c,q⟩:=h;erw[_,#v["CÏ%DÆĄĢ°#%&'"],?_];erw[jC (S':=[some _,some _,some _,some _]) rfl ?_]
 try dsimp only[dh,Cx.i7]
 unfold Pr.B4 at c;ac_nf;rwa[q]
def YV:4<*t.qf t.qi ["self","beat"] (fC t.jF):=by
 specialize T.Y5.ok j5;let⟨a,z,d,f,F,hs,E,I,rfl,A,N,t1,t2,q⟩:=h;erw[_,#v["6/ýĤ%ĥƓƔ7Oƕ^e?#£1ýÞ2ÞY5ý.ý6<ý¿*lzS+6Eýp@S+4Ö³ʼʽ¶=&-S+S+(&-&"],?_]
 rotate_right 206
 have W:=N.s.w;have lE:=A.el;let⟨dx,ob⟩:=A.ob;exists#[a,dx,_,rfl,ob,Wl ∅ ∅ ∅ ∅ ∅ ∅,?_];exists#[a,z,d,f,F,hs,E,I,rfl,A,N,t1,t2,λr M l2 as P H1 s1 S a5 er h1 C m h2 a4 gP pl bP hP _=>?_];have a1:=FD N lE A.eo t1 hP;exists cg er ?_;exists cg er ?_;have m1:∀{c u},H c⊂u->c≠M:=λh=>je h S
 have al:=gP.1;erw[l2,rfl,#[_,bV.of h2],?_];refine JD (xs:=as.map V.ref) (λi σ l=>lK λ(Y Z o6 o7:N3)=>fq (σ=[↥a,~~~I,↥r,↥M,Y,Z,o6,o7]) (∀c u,c≠M->H1 c⊂u->l c⊂u) (l M⊂(.lst (((P.take i).foldl (me d f) (gv d f F E I)).map V.int))) (⇑((P.take i).foldl (me d f) (gv d f F E I))=⇑d/\(∀h∈((P.take i).foldl (me d f) (gv d f F E I)),0<=h/\h<=10^18)))
  #[_,_,_,_,rfl,λc u _ h=>h,h1,C,m] ?_ ?_ ?_
 .rintro i σ l _ ⟨Y,Z,o6,o7,rfl,G,D,_⟩;rwa[bV.of (G _ _ a4.symm h2)]
 .rintro i v σ l hv ⟨Y,Z,o6,o7,rfl,G,D,C,m⟩;let⟨c,x,rfl,hx,O⟩:=gP.cD hv;let⟨x1,x0,x2⟩:=bP x (vm hx);obtain⟨p,hp⟩:∃p,f[x.1]?⊂p:=#[_,vz x1]
  let⟨fb,a0,hf⟩:=A.fo.get hp;have U:(P.take (i+1)).foldl (me d f) (gv d f F E I)=me d f ((P.take i).foldl (me d f) (gv d f F E I)) x:=by
   rw[take_snoc hx,foldl_append];rfl
  rw[U];generalize(P.take i).foldl (me d f) (gv d f F E I)=hts at D C m|-;have X:∀{c u},H c⊂u->l c⊂u:=λh=>G _ _ (m1 h) (s1 _ _ h)
  have nc:c≠M:=λz=>by rw[z,h1]at O;cases O
  have J:cf l fb p.2:=cf.put (λb xs m=>X m) hf;erw[JK (cw.of (G _ _ nc O)) ?_];exists#[a,_,dx,_,_,rfl,X ob,T.jP,T.JV,YJ,?_];exists ck (bV.of (X A.ho)) (Zw (i:=(x.1:Int)) ⋯ a0) ?_;ac_nf;by_cases L:∃y v n,p.2 = .rise y v n
  .let⟨y,v,n,e⟩:=L;rw[e]at J;have B:f[x.1]?⊂(p.1,.rise y v n):=by rw[hp,<-e]
   let⟨k,R⟩:=W.r x.1 p.1 y v n B;have ek:=jV W.ln R;have kl:k<⇑d:=by have:=(vx.mp R).1;rw[bQ,vt]at this;rwa[this]
   have o:l fb⊂(.tup [.str "raise",.str y,.int v,.int n]):=J;have gx:F∘x.1=n:=((N.s.ln x.1 (p.1,.rise y v n) B).2 n (show ig (.rise y v n) _ n from rfl)).symm;have eA:me d f hts x=hts.set k (Rp.ramp (hts∘k) v n x.2):=by
    unfold me;rw[B];show hts.set (cu (bQ d) y) (Rp.ramp (hts∘(cu (bQ d) y)) v n x.2)=_;rw[ek]
   erw[cg o ?_];exists cI ?_;exists#[a,_,dx,_,_,rfl,X ob,T.jP,T.Qh,xK,?_];exists cg o ?_;have g:cY l z.d (.str y) (some (.int (k:Nat))):=by
    have g:=cY.k (k:=Sum.inr y) (X A.hd);rw[Yl W.ln R]at g;rwa[g]
   erw[z.d,_,rfl,g,?_];ac_nf;have hh:hts[k]?⊂(hts∘k):=by rw[vy,vz ⋯];rfl
   erw[ck (bV.of D) (jS (j:=k) (by rw[vv,hh];rfl)) ?_];exists cg o ?_;exists cg o ?_;ac_nf;have h0:=m _ (vm hh);let⟨v0,v1,n1,n2⟩:=N.BI x.1 p.1 y v n B;erw[_,_,_,_,rfl,by unfold Pr.B4;lia,?_];exists#[M,_,_,k,rfl,rfl,D,by unfold lS;simp[C,kl],?_];rw[eA];erw[_,_,_,_,rfl,λc u O h=>(jh O).trans (G _ _ O h),jA.trans (by rw[map_set]),by rw[length_set];rwa[C],λh a2=>?_];rcases List.mem_or_eq_of_mem_set a2 with z | z
   .exact m h z
   .rw[z];rwa[Av h0 #[v0,v1] n1 x0 ⋯]
  .have eA:me d f hts x=hts:=by
    unfold me;rw[hp];let⟨pn,pf⟩:=p;cases pf with
    | rise y v n=>rwa[uf #[y,v,n,rfl] L]
    | _=>rfl
   let⟨k,xs,R,dk⟩:=Cj J λy v n e=>L #[y,v,n,e]
   erw[dY (cw.of R) (iw) ?_];exists fe dk ?_;ac_nf;rw[eA];rwa[_,_,_,_,rfl,G,D,C,m]
 rintro S' l ⟨Y,Z,o6,o7,rfl,G,D,C,m⟩;rw[vt,al,v5,a1]at D C;ac_nf;rwa[q M l (λc u h=>G _ _ (m1 h) (s1 _ _ h)) S D C]
def kc:5<*t.qu t.qx ["self"] (fB t.jE t.jF):=by
 specialize T.kr.ok kh;let⟨m,c,z,i,k,f,g,E,l,rfl,A,N,n,o,q⟩:=h;erw[_,#v["CĤ@ĥʾʿ7Oˀ^e?@"],?_];erw[jC (S':=[some _]) rfl ?_]
 try dsimp only[dh,Cx.i7]
 let⟨a,b⟩:=A.ob;let⟨e,j⟩:=A.sg.ob;exists#[m,_,a,_,_,rfl,b,T.jL,T.Jw,Y6,?_];erw[c,e,_,rfl,j,Wl ∅ ∅ ∅ ∅ ∅ ∅,?_];exists#[m,_,a,_,_,rfl,b,T.jL,T.Jc,zZ,?_];ac_nf;rwa[c,z,i,k,f,g,E,l,rfl,A.sg,N,n,o,q]
def FQ:2<*t.KB t.KL ["stage","starts","inside","part","gone"] (g4 P w t.jF):=by
 specialize T.xt.F.ok yH;let⟨a,l,d,z,ls,o,e,hs,E,st,xs,i,I,rfl,A,N,el,sl,hd,hi,t1,t2,kd,q⟩:=h;erw[_,#v["r.ơ¿&HzIÚÜp@IHÃƷIb9Ä?*><ơ{ǘǙ¿&@*JħwEáǳĹǴǵǶâ]/$ÿǷƭǸ7777ơ$Ĕ2+ųÐŰ«½:½Ĵ/½1½˅ˆˇˈˉ$$¢*3%&Ħ$$$$HzIċ-3`Ɗ$ƋƌƫǳĹǴǵǶ¯ǷƭǸ77772+ÐŰ«½:½Ĵ/½1½'=-Z"],?_]
 rotate_right 503
 have W:=N.s.w;have ah:=W.nF;let⟨dx,ob⟩:=A.ob;obtain⟨p,m⟩:∃p,o[i]?⊂p:=#[_,vz hi]
 let⟨fb,a6,R⟩:=A.fo.get m;have af:=(N.g hi).2;have a0:cH o e i=cW e p.2 (cM o p.2):=by unfold cH;rw[m]
 have a9:(o.map λp=>cW e p.2 (cM o p.2))[i]?⊂(cH o e i):=by rw[vv,m,a0];rfl
 let⟨al,a5,bs,a7,hq⟩:=A.pa.get a9;have a3:⇑(cH o e i)<=8:=by rw[a0];rwa[Cn (N.i8 m)]
 have yl:⇑(fj e I (cH o e i))<=8:=vW (List.length_filterMap_le _ _) a3;exists#[a,_,dx,_,_,rfl,ob,T.jP,T.JV,YJ,?_];exists ck (bV.of A.ho) (jS (j:=i) (by rw[vv,a6];rfl)) ?_;exists Ak (C:=∃(f:Str) (tl:N2),H fb⊂(.tup (.str f::tl))/\(f = "row"\/f = "side"\/f = "again")/\((f = "side"/\dC ls o e st i I = .tuple ((fj e I (cH o e i)).map (gw (dC ls o e st))))\/(¬f = "side"/\fj e I (cH o e i)≠[]/\dC ls o e st i I=ni (fj e I (cH o e i)) (dC ls o e st)))) (λhg=>?_) (λM=>?_)
 .let⟨f,tl,r,u,hD⟩:=hg;have nr:¬f = "raise":=by rcases u with h | h | h<;>(rw[h];decide +kernel)
  have nh:¬f = "hold":=by rcases u with h | h | h<;>(rw[h];decide +kernel)
  have ng:¬f = "ring":=by rcases u with h | h | h<;>(rw[h];decide +kernel)
  erw[dY (cw.of r) (iw) ?_];exists fe (vH nr) ?_;exists dY (cw.of r) (iw) ?_;exists#[uc,?_];walk_at"f 1 e";erw[p1,_,rfl,.inr (cw.of e1),rfl,rfl,_,rfl,?_];erw[fe (by rcases u with h | h | h<;>(subst h;decide +kernel)) ?_];exists#[a,_,dx,_,_,rfl,s1 _ _ ob,T.jP,T.qI,Wm,?_];exists ck (bV.of (s1 _ _ A.hp)) (Zw (i:=(i:Int)) ⋯ a5) ?_;exists#[a,_,dx,_,_,rfl,s1 _ _ ob,T.jP,T.Jd,zP,?_];exists#[al,z.s,I,bs,cH o e i,e,rfl,s1 _ _ a7,bX.mono hq λc y h=>s1 _ _ h,s1 _ _ A.hs,a3,λq hq=>N.m9 hq,t1,⋯,λlp U H2 s2 ag ep D=>?_];have F:=s1.trans s2;have S:=D.1;have a1:hI P w H2 d xs:=#[F _ _ hd.1,λp m=>F _ _ (hd.2 p m)]
  generalize eY:fj e I (cH o e i)=Y at hD D S yl kd;exists#[lp,rfl,#[_,bV.of ep],?_];erw[Jn (xs:=U.map V.ref) (λk J B=>bU H2 B/\hJ B J ((Y.take k).map (gw (dC ls o e st)))) #[bU.refl _,.nil] ?_ ?_ ?_]
  .rintro k J B _ ⟨Z,_⟩;rwa[bV.of (Z _ _ ep)]
  .rintro k v J B hv ⟨Z,L⟩;let⟨c,y,rfl,hy,hc⟩:=D.cD hv;have hk:=(vx.mp hy).1;have ae:=AU L;rw[vt,vi]at ae;erw[Jo (S':=[none,none,none,none,↥d]) rfl ?_];erw[Bi (cw.of (Z _ _ hc)) ?_];exists dt ?_;exists DK ?_;ac_nf;have O:hI P w B d xs:=#[Z _ _ a1.1,λp m=>Z _ _ (a1.2 p m)]
   erw[d,xs,rfl,O,?_];exists#[uc,?_];walk_at"f 3 e";erw[p3,[some (y.1:Int),y.2.2.2],xs,rfl,#[s3 _ _ O.1,λp m=>s3 _ _ (O.2 p m)],?_,?_]
   .show H3 p3=_;rw[e3];cases y.2.2.2<;>rfl
   erw[⋯,Z.trans s3,?_];rw[take_snoc hy,vj];rwa[B9 (L.mono s3) (((kd y (vm hy)).mono F).mono (Z.trans s3))]
  rintro J H3 ⟨s3,L⟩;rw[vt,S,v5]at L;have a4:=AU L;rw[vt]at a4;erw[⋯,?_];walk_at"f lq hlq H4 s4 e4";have G:=s3.trans s4;have X:=F.trans G;exists dY (cw.of (X _ _ r)) (iw) ?_;ac_nf;rcases hD with⟨ht,hD⟩ | ⟨ht,yn,hD⟩
  .refine lR (vG ht) ?_;exists#[lq,_,rfl,.inl #[bV.of e4,?_]];walk_at"f 5 e";erw[q (.ref p5) H5 (X.trans s5) ?_];rw[hD];rwa[.tup e5 ((L.mono s4).mono s5)]
  .refine fe (vH ht) ?_;exists#[lp,rfl,#[_,bV.of (G _ _ ep)],?_];refine Jn (xs:=U.map V.ref) (λk J B=>J=((Y.take k).map λy=>y.2.2.1).map V.int/\H4=B) #[rfl,rfl] ?_ ?_ ?_
   .rintro k J B _ ⟨rfl,rfl⟩;rwa[bV.of (G _ _ ep)]
   .rintro k v J B hv ⟨rfl,rfl⟩;let⟨c,y,rfl,hy,hc⟩:=D.cD hv;have hk:=(vx.mp hy).1;erw[Jo (S':=[none,none,none,none]) rfl ?_];erw[Bi (cw.of (G _ _ hc)) ?_];exists dt ?_;exists#[by rw[vt,vt,vi];lia,?_,rfl];rw[take_snoc hy,vj,vj];rfl
   rintro zs B ⟨rfl,rfl⟩;rw[show(U.map V.ref).length=⇑Y from(vt _).trans S,v5];erw[by rw[vt,vt];lia,?_];walk_at"f 5 e";erw[p5,_,rfl,bV.of e5,?_];have ad:Y.map (gw (dC ls o e st))≠[]:=λz=>yn (List.map_eq_nil_iff.mp z)
   let⟨x,ab,ac⟩:=HD (d:=PyData.none) ad;let⟨v,a2,aa⟩:=D4 L ac;rw[vt]at a2;have y1:1<=⇑Y:=length_pos_iff.mpr yn;exists ck (bV.of (s5 _ _ e4)) (D0 (n:=⇑Y) y1 a4 a2) ?_;exists#[uc,?_];walk_at"f 6 e";erw[q (.ref p6) H6 (X.trans (s5.trans s6)) ?_];rw[hD];unfold ni;rw[ab];rwa[.tup e6 (.cons (.int _) (.cons (((aa.mono s4).mono s5).mono s6) .nil))]
 .let⟨nm,fm⟩:=p;dsimp only at R;cases fm with
  | rise x v n=>
   have r:H fb⊂(.tup [.str "raise",.str x,.int v,.int n]):=R;let⟨j,hj⟩:=W.r i nm x v n m;have a8:=(vx.mp hj).1;rw[bQ,vt]at a8;have g:=cY.k (k:=Sum.inr x) A.hd;rw[Yl W.ln hj]at g;erw[cg r ?_];exists cI ?_;exists#[a,_,dx,_,_,rfl,ob,T.jP,T.Qh,xK,?_];exists cg r ?_;erw[z.d,_,rfl,g,?_];erw[ck (bV.of el) (jS (j:=j) (by rw[vv,vz ⋯];rfl)) ?_];exists#[uc,?_];walk_at"f 1 e";erw[q (.ref p1) H1 s1 ?_];rw[CH m,jV W.ln hj,vy,vz ⋯];rwa[.tup e1 (.cons (.int _) (.cons (.int _) .nil))]
  | hold n=>
   have r:H fb⊂(.tup [.str "hold",.int n]):=R;erw[cg r ?_];exists bZ ?_;exists cg r ?_;exists#[uc,?_];walk_at"f 1 e";erw[p1,_,rfl,.inr (cw.of e1),rfl,rfl,_,rfl,?_];erw[cI ?_];exists#[ud,?_];walk_at"f 2 e";erw[q (.ref p2) H2 (s1.trans s2) ?_];rw[CF m];rwa[.tup e2 (.cons (.int _) .nil)]
  | ring x n=>
   have r:H fb⊂(.tup [.str "ring",.str x,.int n]):=R;erw[cg r ?_];exists bZ ?_;exists cg r ?_;exists#[uc,?_];walk_at"f 1 e";erw[p1,_,rfl,.inr (cw.of e1),rfl,rfl,_,rfl,?_];erw[cI ?_];exists#[ud,?_];walk_at"f 2 e";erw[q (.ref p2) H2 (s1.trans s2) ?_];rw[CG m];rwa[.tup e2 (.cons (.int _) .nil)]
  | row xs2=>
   let⟨b,r,h2⟩:=R;rwa[M #[_,_,r,.inl rfl,.inr #[by trivial,Ef N m t1 (.inl #[_,rfl]),DH W m]]]
  | side xs2=>
   let⟨b,r,h2⟩:=R;rwa[M #[_,_,r,.inr (.inl rfl),.inl #[rfl,CI W m]]]
  | again k x=>
   have r:H fb⊂(.tup [.str "again",.int k,.str x]):=R;rwa[M #[_,_,r,.inr (.inr rfl),.inr #[by trivial,Ef N m t1 (.inr #[_,_,rfl]),Xg W m]]]
def FP:4<*t.KA t.KK ["stage","beat"] (g0 t.jF):=by
 specialize T.xr.F.ok Zq;let⟨a,z,S,f,o,hs,E,I,rfl,A,N,t1,t2,q⟩:=h;erw[_,#v["6/ŦĤ%ĥƓƔ7Oƕ^e?#£1Ŧˊ2ǜÞvZY5Ŧ.Ŧ4ȑÝˋˌ%Þ&*(&Ú(ˍ¢ˎ¢&3×@#Ħ$$$$"],?_]
 rotate_right 204
 have W:=N.s.w;have ne:=N.ne;let⟨dx,ob⟩:=A.ob;exists#[a,dx,_,rfl,ob,Wl ∅ ∅ ∅ ∅ ∅ ∅,?_];exists#[a,z,S,f,o,hs,E,I,rfl,A,N,t1,t2,λr l1 l2 as l H1 s1 a7 a8 er h1 ll hb h2 a9 gP pl bP hP eP=>?_];ac_nf;dsimp only[dh,Cx.i7];intro d U;have M:bU H1 (upd H1 d (nI P w d [])):=wU U rfl;have ed:hI P w (upd H1 d (nI P w d [])) d []:=#[jA,λp L=>nomatch L]
 have a2:d≠l1:=λz=>by rw[z,h1]at U;cases U
 generalize a1:upd H1 d (nI P w d [])=H2 at M ed|-;clear a1;have a6:=s1.trans M;have al:=gP.1;exists cg (M _ _ er) ?_;exists#[rfl,l2,_,rfl,bV.of (M _ _ h2),?_];walk_at"f lr hlr H3 s3 e3";have Z:=a6.trans s3;have a5:lr≠d:=λz=>by rw[z,ed.1]at hlr;cases hlr
 rw[<-map_reverse]at e3;erw[lr,rfl,#[_,bV.of e3],?_];have gR:fk H3 as.reverse l.reverse:=bX.mono (bX.rev gP) λc y h=>s3 _ _ (M _ _ h)
 refine JD (xs:=as.reverse.map V.ref) (λk σ j=>iR λ(o4 o5:N3) (xs:List OE)=>iQ (σ=[↥a,~~~I,↥r,↥d,o4,o5]) (∀c u,c≠d->H3 c⊂u->j c⊂u) (hI P w j d xs) (⇑xs<=k) ((∀x∈l.reverse.take k,DV j (hU xs [some (x.1:Int),some x.2]) (dC S f o (gv S f o E I) x.1 x.2))) ((∀(y:KO),hU xs [y,none] = .cV)/\(k=0->xs=[])))
  #[_,_,[],rfl,λc u _ h=>h,#[s3 _ _ ed.1,λp L=>nomatch L],vb _,(λx B=>nomatch B),λy=>rfl,λ_=>rfl] ?_ ?_ ?_
 .rintro k σ j _ ⟨o4,o5,xs,rfl,G,_⟩;rwa[bV.of (G _ _ a5 e3)]
 .rintro k v σ j hv ⟨o4,o5,xs,rfl,G,B,xl,m,J,_⟩;let⟨c,x,rfl,g,hc⟩:=gR.cD hv;have hk:=(vx.mp g).1;rw[length_reverse]at hk;let⟨x1,x2,x3⟩:=bP x (mem_reverse.mp (vm g));have kd:∀{c:Addr} {u:HO},H c⊂u->j c⊂u:=λ{c u} h=>G _ _ (λz=>by rw[z]at h;rwa[uf (s1 _ _ h) (by rw[U];simp)]) (Z _ _ h)
  have sH:bU H j:=λc u h=>kd h
  have nt:∀{c:Addr} {O:N2},H3 c⊂.tup O->j c⊂(.tup O):=λ{c O} h=>G _ _ (λz=>by rw[z,s3 _ _ ed.1]at h;cases h) h
  have X:KidsP j xs (dC S f o (gv S f o E I)) (fj o x.2 (cH f o x.1)):=λy hy=>by
   unfold gw;cases hr:y.2.2.2 with
   | none=>rw[J];rwa[.cV]
   | some r0=>
    let⟨e1,R⟩:=vx.mp g;have a0:mF f o (⇑f-1) I=l.take (⇑l-1-k)++x::(l.reverse.take k).reverse:=by
     rw[<-eP,List.take_reverse,List.reverse_reverse];have a3:l[⇑l-1-k]?⊂x:=by
      rw[List.getElem?_reverse ⋯]at g;rwa[g]
     have:=List.take_append_drop (⇑l-1-k) l;rw[List.drop_eq_getElem_cons ⋯,(vx.mp a3).2,show ⇑l-1-k+1=⇑l-k by lia]at this;rwa[this.symm]
    rwa[m _ (mem_reverse.mp (LZ N a0 y hy r0 hr))]
  erw[JK (cw.of (nt hc)) ?_];exists cg (nt (s3 _ _ (M _ _ er))) ?_;exists#[a,l1,d,z,S,f,o,hs,E,_,xs,x.1,x.2,rfl,A.same sH,N,G _ _ (Ne.symm a2) (s3 _ _ (M _ _ h1)),ll,B,x1,x2,x3,X,λv H4 s4 dv=>?_];exists#[uc,?_];walk_at"f kt hkt H5 s5 e5";have F:=s4.trans s5;have C:hI P w H5 d xs:=#[F _ _ B.1,λp L=>F _ _ (B.2 p L)]
  erw[d,kt,[some (x.1:Int),some x.2],xs,rfl,rfl,C,e5,⋯,?_];dsimp only[dh,Cx.i7];have aa:=CL (xs:=xs) (k:=[some (x.1:Int),some x.2]) (b:=kt) (v:=v);have a4:∀c O,H5 c⊂.tup O->upd H5 d (nI P w d (iA xs [some (x.1:Int),some x.2] kt v)) c⊂(.tup O):=λc O h=>(jh (λz=>by rw[z,C.1]at h;cases h)).trans h
  have Y:∀{v':V} {D:PyData},DV H5 v' D->DV (upd H5 d (nI P w d (iA xs [some (x.1:Int),some x.2] kt v))) v' D:=λh=>h.mW (by rw[C.1];rwa[(λ_ z=>nomatch z),(λ_ z=>nomatch z)])
  erw[_,_,_,rfl,λc u n h=>(jh n).trans (F _ _ (G _ _ n h)),#[jA,HX C.2 e5 a4],⋯,λy hy=>?_,λy=>?_,λz=>⋯]
  .rw[Cb];rw[take_snoc g]at hy;split
   .rename_i e;injection e with e1 R;injection R with R _;have e1:(y.1:Int)=x.1:=vL e1;have R:y.2=x.2:=vL R;rw[R,show y.1=x.1 by lia];rwa[Y (dv.mono s5)]
   .rename_i ne';rcases vh.mp hy with h | h
    .exact Y ((m y h).mono F)
    .rw[vo.mp h]at ne';rwa[uf rfl ne']
  .rw[Cb,vc (λz=>nomatch z)];rwa[J y]
 rintro σ j ⟨o4,o5,xs,rfl,G,B,xl,m,J,hz⟩;have kd:∀{c:Addr} {u:HO},H c⊂u->j c⊂u:=λ{c u} h=>G _ _ (λz=>by rw[z]at h;rwa[uf (s1 _ _ h) (by rw[U];simp)]) (Z _ _ h)
 have sH:bU H j:=λc u h=>kd h
 have fl:=A.fo.1;rw[vt,length_reverse,al,take_of_length_le (by rw[length_reverse];lia)]at m;rw[vt,length_reverse,al]at hz xl;exists DK ?_;exists#[d,xs,rfl,B,?_];exists#[a,_,dx,_,_,rfl,sH _ _ ob,T.jP,T.JV,YJ,?_];exists#[_,_,rfl,.inl #[_,bV.of (sH _ _ A.ho),rfl],?_];rw[vt,fl];exists#[uc,?_];walk_at"f 7 e";erw[p7,[some ((⇑f-1:Nat):Int),some I],xs,rfl,#[s7 _ _ B.1,λp L=>s7 _ _ (B.2 p L)],?_,?_]
 .rw[show((⇑f:Nat):Int)-1=((⇑f-1:Nat):Int) by lia]at e7;rwa[e7]
 erw[q _ H7 (sH.trans s7) ?_];unfold mE;by_cases c:o∘(⇑f-1)<=I
 .rw[vd c];rw[WK c]at eP;rw[hz (by rw[eP];rfl)];rwa[.cV]
 .rw[vc c];erw[(m (⇑f-1,I) (mem_reverse.mpr ?_)).mono s7];rw[eP,uZ W c];rwa[vq]
def wB:5<*t.QC t.QF ["self"] (iL t.jE t.jF):=by
 specialize T.wZ.ok wG;let⟨m,i,z,f,g,d,e,E,j,rfl,A,N,k,l,q⟩:=h;erw[_,#v["CGˏː@@"],?_];erw[jC (S':=[some _]) rfl ?_]
 try dsimp only[dh,Cx.i7]
 let⟨a,b⟩:=A.ob;exists#[m,_,a,_,_,rfl,b,T.jL,T.Jw,Y6,?_];exists#[m,_,a,_,_,rfl,b,T.jL,T.Jc,zZ,?_];ac_nf;rwa[i,z,f,g,d,e,E,j,rfl,A.sg,N,k,l,q]
def xa:1<*t.zD t.zG ["_law_found"] (Pr.CZ):=by
 erw[T.yd.F.ok xg (λc H Q E h=>?_) (λb A a s H c Q E d h=>?_)]
 .let⟨i,rfl,q⟩:=h;rfl
 let⟨i,rfl,q⟩:=h;erw[_,#v["CƢćĲ%˕˖˗ƣ˘ćĲ%˙˚˛"],?_];erw[jC (S':=[some _]) rfl ?_]
 try dsimp only[dh,Cx.i7]
 exists#[_,_,_,_,rfl,.int i,Gg,?_];exists dt ?_;exists#[_,_,_,_,rfl,.int i,Fw,?_];ac_nf;rwa[q]
def WH:6<*t.ZP t.ZT ["_law_machine","_law_beat","_law_row","_law_limbs","_law_last_here"] (gu t.jE t.jF):=by
 specialize T.Q4.F.ok YC;let⟨m,J,ra,pl,z,F,k,f,j,hs,E,g,ws,b,rfl,A,N,X,Y,hb,R,ep,la,q⟩:=h;erw[_,#v["r.˜ą˞˟7ˠ¼ēÁćĲ(ǺľżTĩn(Øı/ǻŧŨũŪūŬŭ2&ŧŨũŪūŬŭpþŎN$#þŎN$%¼Á`ˡ$ˢˣĂĨ¯ǻŧŨũŪūŬŭ2(ŧŨũŪūŬŭ»Ǽǽ¼ēÁVǼǽąǾǿ7ȀTǮąǾǿ7Ȁ#JM()HƤ*ƥˤąȁȂ7ȃŐŮćĲąȁȂ7ȃ˥Ƹƹ"],?_]
 rotate_right 501
 let⟨C,I⟩:=A.ob;have W:=N.s.w;have l8:=W.l8;let⟨d,w',e2,hd,ew⟩:=R;exists#[m,C,_,rfl,I,yj ∅ ∅ ∅,?_];erw[m,J,z,k,f,j,hs,E,g,rfl,A,N,X,Y,λO H1 B a0 D a2=>?_];exists#[_,_,_,_,rfl,.lst D,wt,?_];exists gC ?_;have Z:=hd.same B;exists#[pl,rfl,#[_,bV.of (B _ _ ep)],?_];erw[Jn (xs:=F.map V.ref) (λu p G=>p=((cJ k f j E g).take u).map V.int/\H1=G) #[rfl,rfl] ?_ ?_ ?_]
 .rintro u p G _ ⟨rfl,rfl⟩;rwa[bV.of (B _ _ ep)]
 .rintro u v p G L ⟨rfl,rfl⟩;let⟨a,⟨nm,h⟩,rfl,M,ha⟩:=la.cD L;have hu:=(vx.mp M).1;have su:(cJ k f j E g)[u]?⊂((cJ k f j E g).getD u 0):=by rw[vy,vz ⋯];rfl
  erw[Jo (S':=[none,↥ra]) rfl ?_];exists dt ?_;exists dY (cw.of (B _ _ e2)) (iw) ?_;exists dY (cw.of (B _ _ ha)) (iw) ?_;erw[d,_,rfl,Z.get W.ln (i:=u) (by unfold bQ;rw[vv,M];rfl),?_];erw[by rw[vt,vi];lia,?_,rfl];rw[take_snoc su,vj];rfl
 rintro p G ⟨rfl,rfl⟩;rw[show(F.map V.ref).length=⇑(cJ k f j E g) by rw[vt,la.1];lia,v5];erw[by rw[vt];lia,?_];sleep 3;have a1:=B.trans s3;have y:=Ho (n:=1) (cJ k f j E g);erw[_,_,DV.lst (s3 _ _ D) (wJ _),DV.lst t3 (wJ _),y.ok nofun,y.ok nofun,?_];rw[SeqAt.eqv_refl _ y.1];exists gC ?_;exists#[O,rfl,#[_,bV.of (s3 _ _ D)],?_];erw[Jn (xs:=(cJ k f j E g).map V.int) (λu p G=>p=List.replicate u (V.bl true)/\H3=G) #[rfl,rfl] ?_ ?_ ?_]
 .rintro u p G _ ⟨rfl,rfl⟩;rwa[bV.of (s3 _ _ D)]
 .rintro u v p G L ⟨rfl,rfl⟩;rw[vv]at L;let⟨x,M,rfl⟩:=vg.mp L;have hu:=(vx.mp M).1;erw[Jo (S':=[none]) rfl ?_];exists dt ?_;exists#[x,rfl,?_];erw[by rw[length_replicate];lia,?_,rfl];rw[List.replicate_succ']
 rintro p G ⟨rfl,rfl⟩;rw[vt];erw[by rw[length_replicate];lia,?_];sleep 4;have o:=a1.trans s4;exists#[p4,List.replicate ⇑(cJ k f j E g) true,rfl,bV.of (by rw[t4,List.map_replicate]),?_];rw[show(List.replicate ⇑(cJ k f j E g) true).all id=true by rw[List.all_replicate];simp];exists gC ?_;exists#[m,C,_,rfl,o _ _ I,yj ∅ ∅ ∅,?_];erw[m,J,z,k,f,j,E,g,rfl,A.same o,?_];exists#[g,rfl,?_];exists gC ?_;exists#[m,C,_,rfl,o _ _ I,yj ∅ ∅ ∅,?_];erw[m,J,z,k,f,j,E,g,rfl,A.same o,?_];exists mB (λc=>uf rfl c) (λ_=>?_);ac_nf;have e4:=s4 _ _ (s3 _ _ D);erw[.inl #[rfl,_,bV.of e4],?_];exists#[O,_,_,rfl,rfl,e4,by rw[vt];lia,?_];have l:bU H (upd H4 O (.lst ((cJ k f j E g).map V.int++[.int 0]))):=λc u h=>(jh (je h a0)).trans (o _ _ h)
 generalize upd H4 O _=H5 at l|-;subst hb;exists cA (λc=>?_) (λc=>?_)
 .exists#[m,C,_,rfl,l _ _ I,yj ∅ ∅ ∅,?_];erw[m,J,z,k,f,j,hs,E,g,rfl,A.same l,N,X,Y,λv U s6 r=>?_];unfold mE at r;rw[vd ⋯]at r;cases r;exists#[rfl,?_];rwa[q U (l.trans s6)]
 .exists#[m,C,_,rfl,l _ _ I,yj ∅ ∅ ∅,?_];erw[m,J,z,k,f,j,hs,E,g,rfl,A.same l,N,X,Y,λv U s6 r=>?_];have ne:=N.ne;unfold mE at r;rw[vc ⋯]at r;let⟨ds,e⟩:=HR N (show ⇑f-1<⇑f by lia) (t:=g) (S:=gv k f j E g);rw[e]at r;cases r with
  | tup et _=>
   exists#[_,_,_,_,rfl,.tup et,W6,?_];rwa[q U (l.trans s6)]
def X1:6<*t.y6 t.Yg ["_law_machine"] (iD t.jE t.jF):=by
 specialize T.yO.F.ok zN;let⟨m,p,z,k,n,g,E,rfl,A,q⟩:=h;erw[_,#v["6:ƦŐJ˦w/Ħ$$$$Ʀ$$0˧4ņąƧȄ7ƨƘ˨˩%ǹƧ˪7Oƨ^Ħ$$$$Ǜ4>:Ʀ'¼Ƥư˫#3Ŀĝŀˬ0˭$Ŀĝŀˮ0˯$Ƣưȅ#Ŀĝŀ˰0ǝ$ƣćȅ#˱˲˳"],?_]
 rotate_right 102
 have y:(200:Nat)<sizeLine:=by decide
 let⟨f,l⟩:=A.ob;exists#[λS' d=>dH λ(x:Addr)=>dG (S'=[↥m,↥x,none]) (bU H d/\d x⊂(oR (.ref t.QE) x)),?_,?_]
 .refine Mi ?_;erw[NQ (Ir ?_)];exists#[m,f,_,rfl,l,yj ∅ ∅ ∅,?_];erw[m,p,z,k,n,g,E,rfl,A,T.JT,λx j=>?_];refine jC (S':=[↥m,some .cV,↥x]) rfl ?_
  try dsimp only[dh,Cx.i7]
  ac_nf;rwa[_,rfl,λc u h=>(jh (je h j)).trans h,jA]
 .rintro S' r ⟨x,rfl,o,b⟩;exists#[uc,?_];sleep 2;exists#[x,t.QE,p2,[t.kA,t.kB],false,rfl,s2 _ _ b,T.AD,t2,tN T.qO T.qP,?_];erw[_,rfl,gC ?_];exists DL (s2 _ _ b) T.AD T.QN ?_;erw[_,rfl,dt ?_];exists DL (s2 _ _ b) T.AD T.JG ?_;rwa[q H2 (o.trans s2)]
def Nk:39<*t.tL t.sG ["_law_script"] (Pr.gY K):=by
 specialize T.Bp.F.ok ZY;let⟨a,Y,rfl,hS,an,hB,q⟩:=h;erw[_,#v["6:¡ķ˴$ŉŊ)ķƐ$Ƒƒ×%)RőĊ˵˶%ÇȒ)))))Y/¡1¡>5¡V˷˸'Û.¡V˹˺'<¡3ĆIĆIUE¡Ǘ˻˼7O0˽˾^e?(¼ÁÝƩƪ-)čÞåJ¥˿0Ł_)¨&f¡6ø¡Ȕ-ƧȄ7ƨR¼ēÁćĲ[ǺľżTĩn[i*KM[94¼ÁÝƩƪ-K=*KÞƥƳK&Ů¼ēÁVȆȇ-ÁVȆȇ-ƢÝƩƪ-&=*&ÞåƣƥЀn(+Ů"],?_]
 rotate_right 109
 exists#[_,_,rfl,.inl #[_,hS,rfl],?_];rw[vt];exists#[_,_,rfl,?_];exists#[_,_,rfl,?_];obtain⟨k,em,as,ac⟩:∃k:Nat,(if(2:Int)<(if(16:Int)<(⇑Y:Int)-1 then 16 else(⇑Y:Int)-1)then(if(16:Int)<(⇑Y:Int)-1 then 16 else(⇑Y:Int)-1)else 2)=(k:Int)/\2<=k/\k<=16:=by
  erw[(if(2:Int)<(if(16:Int)<(⇑Y:Int)-1 then 16 else(⇑Y:Int)-1)then(if(16:Int)<(⇑Y:Int)-1 then 16 else(⇑Y:Int)-1)else 2).toNat,?_,?_,?_]<;>(split<;>split<;>lia)
 rw[em];exists#[(by show 5<=sizeLine;lia),?_];walk_at"f bd hbd H1 s1 t1";exists#[a,bd,Y,k,4,9,7,4,90,rfl,s1.seq hS,an,as,ac,#[t1,by decide,by decide,by decide,by decide,by decide,by decide,by decide,by decide,by decide,by decide],λr b pl pp o ad names f g M gs H2 s2 ab Bk D N fl nL nd nW l1 l8 U lW aA gb=>?_];clear em;have ae:=s1.trans s2;have dl:⇑(bS names g)=⇑g:=j3;have W:=N.s.w;have bo:=D.Ah l8 N.vX lW nW ⋯ ⋯;have O:=XV W ⋯;have gp:=D.g (⇑g-1) ⋯;have aj:=gb (⇑g-1) ⋯;let⟨EE,_,eE⟩:=EN.ex D U ⇑g (vb _);have X:lV (bQ f) names g M gs EE:=#[D,⋯,nd,U,by unfold bQ;rw[vt];rwa[l8],⋯,gb,eE,MK N]
 have hb:Rm.hB (f.map (·.2)):=λx hx=>by let⟨q,hq,rfl⟩:=vK.mp hx;rwa[N.vX q hq]
 generalize eL:gs∘(⇑g-1)=L at gp ab aj;erw[JK (cw.of ab) ?_];exists#[b,pl,pp,o,ad,f,names,g,M,gs,EE,rfl,Bk,X,⋯,hb,λrl au Hr sr al R=>?_];have Bk:=Bk.same sr;have ae:=ae.trans sr;exists#[b,pl,pp,o,ad,f,_,rfl,Bk,W,⋯,λtb lb fb aa ms H3 s3 et el ef _ _ _ dr Kd=>?_];have ai:=Bk.same s3;have Bx:=Dp O l8 Kd;have Wq:=NS Bx W.ln;have Cr:=LQ W ⋯ Kd;have kl:⇑(du (cR f (bS names g)) ms)=⇑ms:=Wx _ _;let⟨⟨c,ao,ap⟩,_⟩:=Kd.named O;have qe:⇑(fI f (du (cR f (bS names g)) ms))=⇑ms:=(Zz _ _).trans kl;let⟨j,hq,Nq,am⟩:=Mv N Cr ⋯ Wq;have a1:=λ(E F:L0) (h1:⇑E=_) (h2:⇑F=_) hE hF (t0:Int)=>G1 N Nq Cr (E:=E) (F:=F) h1 h2 hE hF t0
 clear Cr kl ao ap qe Kd;generalize du (cR f (bS names g)) ms=kk at *;exists cg et ?_;erw[lb,_,rfl,.inl (bV.of el),?_];walk_at"f p1 hp1 H4 s4 t4";exists cg (s4 _ _ et) ?_;erw[fb,_,rfl,.inl (bV.of (s4 _ _ ef)),?_];walk_at"f p2 hp2 H5 s5 t5";exists#[uc,?_];sleep 6;have l:=s4.trans (s5.trans s6);have a9:=ai.same l;ac_nf;intro m dm hm aq az;have s7:bU H6 (upd (upd H6 dm (.own m)) m (.ins t.jE dm [])):=λc u h=>(jh (je h hm)).trans ((jh (je h aq)).trans h)
 erw[m,dm,tb,lb,fb,o,aa,f,kk,j,hq,rfl,jA,s7 _ _ (l _ _ et),s7 _ _ (l _ _ el),a9.la.mono λb x h=>s7 _ _ h,s7 _ _ (l _ _ ef),bX.mono dr λa d h=>(h.same l).same s7,Bx,Nq,λZ z E H8 k8 ax A8=>#[rfl,?_]];have a7:bU H6 H8:=λc u h=>k8 _ _ (je h hm) (s7 _ _ h)
 have av:=l.trans a7;have ah:=s3.trans av;have B:=a9.same a7;let⟨dx,ob⟩:=A8.ob;have ay:⇑(fI f kk)=⇑kk:=Zz _ _;have gL:j∘(⇑(fI f kk)-1)=L:=by rw[am,dl,eL]
 have a6:∀u:Nat,(u:Int)<=L->∃ra,eZ (au.map V.ref) (u:Int)=↥ra/\gz H8 (bQ f) ra (cJ f (fI f kk) j E u,cP (fI f kk) j u):=λu hu=>by
  let⟨ra,e,r⟩:=LB (by rw[eL];rwa[gp.1]) (by rw[eL];rwa[hu]) R;let⟨F,J,oF⟩:=Df (names:=names) D ⋯ nd U;let⟨p1,p2⟩:=a1 F E J A8.sg.el oF A8.sg.eo u;erw[ra,jS (by rw[vv,e];rfl),?_];rw[p1,p2,La X ⋯ J oF,CQ X ⋯];rwa[r.same ah]
 have p:=ah _ _ al;let⟨r0,a0,R0⟩:=a6 0 ⋯;exists ck (bV.of p) (a0) ?_;exists cg B.t ?_;exists#[m,Z,r0,pl,z,o,f,_,j,hq,E,0,_,false,rfl,A8,Nq,⋯,⋯,?_,R0,B.l,B.la,λH9 s9=>?_]
 .rw[gL,vH ⋯]
 exists gC ?_;exists#[1,L+1,rfl,#[⋯,⋯,⋯,⋯],?_];have aB:=s9 _ _ ob;have A9:=A8.same s9;have bw:=λt0:Int=>(Mm bo:∀x∈cP (bS names g) gs t0,Ws.fR x=true)
 refine qY (λi σ H'=>fW λ(o8 o9:N3)=>dG (σ=[↥a,~~~k,↥b,~~~L,↥rl,↥tb,↥p6,↥m,o8,o9]) ((∀c u,c≠m->H9 c⊂u->H' c⊂u)/\fO t.jE t.jF H' m Z z f (fI f kk) j E (i:Nat)))
  #[_,_,rfl,λc u _ h=>h,A9] ?_ ?_
 .rintro i σ H' hi ⟨o8,o9,rfl,k',I⟩;have hi:i<(L+1-1).toNat:=hi;rw[show(1:Int)+(i:Nat)=((i+1:Nat):Int) by lia];let⟨ak,a5⟩:=I.ob;exists#[m,ak,_,rfl,a5,yj ∅ ∅ ∅,?_];erw[m,Z,z,f,_,j,hq,E,(i:Nat),rfl,I,Nq,⋯,by rw[gL];lia,λl1 H1 k1 ar A1 e1=>?_];have A1:fO t.jE t.jF H1 m Z z f (fI f kk) j E ((i+1:Nat):Int):=A1;have e1:H1 l1⊂(.lst ((cP (fI f kk) j ((i+1:Nat):Int)).map V.str)):=e1;have kN:∀(c:Addr) (u:HO),(∀C d g,u≠.ins C d g)->H8 c⊂u->H' c⊂u:=λc u G h=>by
   have ne:c≠m:=λe=>by rw[e,ob]at h;cases h;rwa[G _ _ _ rfl]
   rwa[k' _ _ ne (s9 _ _ h)]
  have a4:∀(c:Addr) (u:HO),(∀C d g,u≠.ins C d g)->H8 c⊂u->H1 c⊂u:=λc u G h=>by
   have ne:c≠m:=λe=>by rw[e,ob]at h;cases h;rwa[G _ _ _ rfl]
   rwa[k1 _ _ ne (kN _ _ G h)]
  let⟨ra,aR,RR⟩:=a6 (i+1) ⋯;let⟨dd,ww,er,eh,ew⟩:=id RR;exists#[_,_,_,_,rfl,.lst e1,wt,?_];exists gC ?_;exists ck (bV.of (a4 _ (.lst _) (λ_ _ _ z=>nomatch z) p)) (aR) ?_;exists cg (a4 _ (.tup _) (λ_ _ _ z=>nomatch z) er) ?_;let⟨F,J,oF⟩:=Df (names:=names) D ⋯ nd U;have pr:=(a1 F E J A8.sg.el oF A8.sg.eo ((i+1:Nat):Int)).2;have a8:iT 2 (.list ((cP (fI f kk) j ((i+1:Nat):Int)).map PyData.str)):=iT.lst (n:=1) λd hd=>by
   let⟨n,hn,rfl⟩:=vK.mp hd;rwa[CU (xs:=[_]) (λy hy=>by rw[vo.mp hy];rwa[bw _ n (pr▸hn)]) _ (vo.mpr rfl)]
  exists#[_,_,DV.lst e1 (zI _),DV.lst (a4 _ (.lst _) (λ_ _ _ z=>nomatch z) ew) (zI _),a8.ok nofun,a8.ok nofun,?_];rw[SeqAt.eqv_refl _ a8.1];exists gC ?_;exists#[.inl #[rfl,_,bV.of e1],?_];have wl:⇑(cP (fI f kk) j ((i+1:Nat):Int))<=5000:=by
   rw[pr,CQ X ⋯];rwa[X.w _ _ ⋯ ⋯]
  have aC:(6000:Nat)<sizeLine:=by decide
  exists#[l1,_,_,rfl,rfl,e1,by rw[vt];lia,?_];have nl:∀{c:Addr} {u:HO},H' c⊂u->c≠l1:=λh=>je h ar
  have k2:∀c u,c≠m->H' c⊂u->(upd H1 l1 (.lst ((cP (fI f kk) j ((i+1:Nat):Int)).map V.str++[.str "ding"]))) c⊂u:=λc u n h=>(jh (nl h)).trans (k1 _ _ n h)
  have A2:fO t.jE t.jF (upd H1 l1 (.lst ((cP (fI f kk) j ((i+1:Nat):Int)).map V.str++[.str "ding"]))) m Z z f (fI f kk) j E ((i+1:Nat):Int):=#[A1.ob.imp λdx h=>(jh (nl a5)).trans h,I.sg.but a5 I.ne k2,I.ne]
  generalize upd H1 l1 (.lst ((cP (fI f kk) j ((i+1:Nat):Int)).map V.str++[.str "ding"]))=H2 at k2 A2|-;have S:∀(c:Addr) (u:HO),(∀C d g,u≠.ins C d g)->H8 c⊂u->H2 c⊂u:=λc u G h=>by
   have ne:c≠m:=λe=>by rw[e,ob]at h;cases h;rwa[G _ _ _ rfl]
   rwa[k2 _ _ ne (kN _ _ G h)]
  have a2:=B.dF (λc xs h=>S _ _ (λ_ _ _ z=>nomatch z) h) (λc xs h=>S _ _ (λ_ _ _ z=>nomatch z) h);exists ck (bV.of (S _ (.lst _) (λ_ _ _ z=>nomatch z) p)) (aR) ?_;exists cg a2.t ?_;exists#[m,Z,ra,pl,z,o,f,_,j,hq,E,((i+1:Nat):Int),_,decide (((i+1:Nat):Int)=L),rfl,A2,Nq,⋯,by rw[gL];lia,by rw[gL],RR.pU S,a2.l,a2.la,λaw af=>?_];exists gC ?_;ac_nf;rwa[_,_,rfl,λc u n h=>af _ _ (k2 _ _ n (k' _ _ n h)),A2.same af]
 rintro σ H' ⟨o8,o9,rfl,k',I⟩;rw[show(((L+1-1).toNat:Nat):Int)=j∘(⇑(fI f kk)-1) by rw[gL];lia]at I;exists#[m,Z,z,f,_,j,E,rfl,I,λHa sa=>?_];exists gC ?_;exists#[m,Z,z,f,_,j,E,rfl,I.same sa,λHb sb=>?_];exists gC ?_;have ag:=sa.trans sb;have kN:∀(c:Addr) (u:HO),(∀C d g,u≠.ins C d g)->H8 c⊂u->Hb c⊂u:=λc u G h=>by
  have ne:c≠m:=λe=>by rw[e,ob]at h;cases h;rwa[G _ _ _ rfl]
  rwa[ag _ _ (k' _ _ ne (s9 _ _ h))]
 have a3:=B.dF (λc xs h=>kN _ _ (λ_ _ _ z=>nomatch z) h) (λc xs h=>kN _ _ (λ_ _ _ z=>nomatch z) h);let⟨ra,aR,RR⟩:=a6 L.toNat ⋯;rw[show((L.toNat:Nat):Int)=L by lia]at aR RR;exists ck (bV.of (kN _ (.lst _) (λ_ _ _ z=>nomatch z) p)) (aR) ?_;exists cg a3.t ?_;exists#[m,Z,ra,pl,z,o,f,_,j,hq,E,L,_,true,rfl,by have:=I.same ag;rw[gL]at this;rwa[this],Nq,⋯,by rw[gL];lia,by rw[gL,vG rfl],RR.pU kN,a3.l,a3.la,λHc sc=>?_];erw[_,rfl,dt ?_];ac_nf;have up:∀{c:Addr} {u:HO},(∀C d g,u≠.ins C d g)->H6 c⊂u->Hc c⊂u:=λG h=>sc _ _ (kN _ _ G (a7 _ _ h))
 erw[tb,p6,lb,fb,p1,p2,o,aa,rfl,rfl,cw.of (up (λ_ _ _ z=>nomatch z) (l _ _ et)),cw.of (up (λ_ _ _ z=>nomatch z) t6),bV.of (up (λ_ _ _ z=>nomatch z) (l _ _ el)),bV.of (up (λ_ _ _ z=>nomatch z) (s6 _ _ (s5 _ _ t4))),bV.of (up (λ_ _ _ z=>nomatch z) (l _ _ ef)),bV.of (up (λ_ _ _ z=>nomatch z) (s6 _ _ t5)),je el hp1,je (s4 _ _ ef) hp2,?_];rwa[q _]
end
section
theorem fin{P:Program}{w:World}{K:cp}{mg:Nw}{base:Heap}{t:Ad}(T:Txt K mg t):dP P w K mg base pA 39 t.tL t.sG ["_law_script"] (Pr.gY K):=by
 erw[Classical.byContradiction λh=>?_]
 have z:=Classical.epsilon_spec (p:=λb=>¬gB b) #[#[P,w,K,mg,base,t],λz=>h (z T)]
 rw[show Classical.epsilon (λb=>¬gB b)=cB by unfold cB;rfl]at z
 rwa[z (λT=>@Nk T)]
end
@[elab_as_elim] theorem uu1{P:L9->Prop}(us:L9)(hl:⇑us=1)(h:∀a0,P [a0]):P us:=by
 cases us with
 | nil=>cases hl
 | cons a r=>cases r with
  | nil=>rwa[h a]
  | cons b s=>cases hl
def iZ{K:cp}{x q:Str}{st:Stmt}{f:Addr}{k:FuncData}{l:Str}(F:fi K x q st f k)(h:∀(kV j o:Value) (an:Option Addr) (i m:Value) (a0:Value),bindArgs (W.fnOf x q (dQ st) (dq st) (bR st) .none kV j o an i m) #[[a0],[]]=pure ([l].zip [a0]):=by intros;rfl):Binds K k [l] []:=F.binds λa b c d e g p n=>uu1 p n (h a b c d e g)
@[elab_as_elim] theorem uu2{P:L9->Prop}(us:L9)(hl:⇑us=2)(h:∀a0 a1,P [a0,a1]):P us:=by
 cases us with
 | nil=>cases hl
 | cons a r=>rwa[@uu1 (λr=>P (a::r)) r (Nat.succ.inj hl) (h a)]
def l0{K:cp}{x q:Str}{st:Stmt}{f:Addr}{l:FuncData}{m n:Str}(F:fi K x q st f l)(h:∀(kV j r:Value) (an:Option Addr) (i o:Value) (a0 k:Value),bindArgs (W.fnOf x q (dQ st) (dq st) (bR st) .none kV j r an i o) #[[a0,k],[]]=pure ([m,n].zip [a0,k]):=by intros;rfl):Binds K l [m,n] []:=F.binds λa b c d e g s p=>uu2 s p (h a b c d e g)
@[elab_as_elim] theorem uu3{P:L9->Prop}(us:L9)(hl:⇑us=3)(h:∀a0 a1 a2,P [a0,a1,a2]):P us:=by
 cases us with
 | nil=>cases hl
 | cons a r=>rwa[@uu2 (λr=>P (a::r)) r (Nat.succ.inj hl) (h a)]
def nS{K:cp}{x q:Str}{st:Stmt}{f:Addr}{m:FuncData}{n o p:Str}(F:fi K x q st f m)(h:∀(kV j t:Value) (an:Option Addr) (i r:Value) (a0 k l:Value),bindArgs (W.fnOf x q (dQ st) (dq st) (bR st) .none kV j t an i r) #[[a0,k,l],[]]=pure ([n,o,p].zip [a0,k,l]):=by intros;rfl):Binds K m [n,o,p] []:=F.binds λa b c d e g u s=>uu3 u s (h a b c d e g)
@[elab_as_elim] theorem uu4{P:L9->Prop}(us:L9)(hl:⇑us=4)(h:∀a0 a1 a2 a3,P [a0,a1,a2,a3]):P us:=by
 cases us with
 | nil=>cases hl
 | cons a r=>rwa[@uu3 (λr=>P (a::r)) r (Nat.succ.inj hl) (h a)]
def BZ{K:cp}{x q:Str}{st:Stmt}{f:Addr}{n:FuncData}{o p r s:Str}(F:fi K x q st f n)(h:∀(kV j v:Value) (an:Option Addr) (i t:Value) (a0 k l m:Value),bindArgs (W.fnOf x q (dQ st) (dq st) (bR st) .none kV j v an i t) #[[a0,k,l,m],[]]=pure ([o,p,r,s].zip [a0,k,l,m]):=by intros;rfl):Binds K n [o,p,r,s] []:=F.binds λa b c d e g w u=>uu4 w u (h a b c d e g)
@[elab_as_elim] theorem uu5{P:L9->Prop}(us:L9)(hl:⇑us=5)(h:∀a0 a1 a2 a3 a4,P [a0,a1,a2,a3,a4]):P us:=by
 cases us with
 | nil=>cases hl
 | cons a r=>rwa[@uu4 (λr=>P (a::r)) r (Nat.succ.inj hl) (h a)]
def tm{K:cp}{x q:Str}{st:Stmt}{f:Addr}{o:FuncData}{p r s t u:Str}(F:fi K x q st f o)(h:∀(kV j y:Value) (an:Option Addr) (i v:Value) (a0 k l m n:Value),bindArgs (W.fnOf x q (dQ st) (dq st) (bR st) .none kV j y an i v) #[[a0,k,l,m,n],[]]=pure ([p,r,s,t,u].zip [a0,k,l,m,n]):=by intros;rfl):Binds K o [p,r,s,t,u] []:=F.binds λa b c d e g z w=>uu5 z w (h a b c d e g)
abbrev Ng(K:cp)(x:Str)(f:Addr):Prop:=W.nsIn K mainGlobals x⊂(some (.ref f))
abbrev N0(K:cp)(x:Str):Prop:=W.nsIn K mainGlobals x⊂none
abbrev Nn(K:cp)(C:Addr)(x:Str):Prop:=W.findIn K (.ref C) x⊂none
abbrev Nx(K:cp)(C:Addr)(x:Str)(f:Addr):Prop:=W.findIn K (.ref C) x⊂(some (.ref f))
abbrev eB(K:cp)(x:Str)(st:Stmt)(f:Addr)(d:FuncData):Prop:=fi K x x st f d
set_option autoImplicit true in
def MP{K:cp}{h:Heap}{mg:Nw}(X:K.In h)(G:h.Ns mainGlobals mg)
  {a:Addr}
  (l:Ng K "Machine" a) (p:W.plainGet K a Str.empty=true) (m:W.hasDictIn K a=true) (q:W.plainOver K a=true) (r:W.findIn K (.ref a) "__setattr__"= some (some (.builtin "object.__setattr__"))) (o:W.makesIn K a=true) (n:W.keepIn K (.ref a)=true) (Jw:Nn K a "stage") (qH:Nn K a "last") (Jc:Nn K a "now")
  {b:Addr}
  (y:Ng K "Stage" b) (C:W.plainGet K b Str.empty=true) (z:W.hasDictIn K b=true) (D:W.plainOver K b=true) (E:W.findIn K (.ref b) "__setattr__"= some (some (.builtin "object.__setattr__"))) (B:W.makesIn K b=true) (A:W.keepIn K (.ref b)=true) (Qh:Nn K b "limbs") (Q6:Nn K b "first") (JV:Nn K b "forms") (Jd:Nn K b "sizes") (zJ:Nn K b "left") (qI:Nn K b "pieces")
  (a1:Ng K "_wall" f1) (F1:eB K "_wall" Aw f1 d1)
  (a2:Ng K "numbers_of" f2) (F2:eB K "numbers_of" yD f2 d2)
  (a3:Ng K "names_in" f3) (F3:eB K "names_in" kf f3 d3)
  (a4:Ng K "form_with" f4) (F4:eB K "form_with" ZH f4 d4)
  (a5:Ng K "made" f5) (F5:eB K "made" Bm f5 d5)
  (a6:Ng K "come_to" f6) (F6:eB K "come_to" K5 f6 d6)
  (a7:Ng K "drums" f7) (F7:eB K "drums" wR f7 d7)
  (a8:Ng K "name_of" f8) (F8:eB K "name_of" K6 f8 d8)
  (a9:Ng K "book_of" f9) (F9:eB K "book_of" zQ f9 d9)
  (aQ:Ng K "inner" f10) (ad:eB K "inner" wS f10 d10)
  (aR:Ng K "ends" f11) (ae:eB K "ends" Bl f11 d11)
  (aS:Ng K "moved" f12) (af:eB K "moved" wT f12 d12)
  (aT:Ng K "check_side" f13) (ag:eB K "check_side" zM f13 d13)
  (aU:Ng K "length_of" f14) (ah:eB K "length_of" Yz f14 d14)
  (aV:Ng K "lengths" f15) (ai:eB K "lengths" Z9 f15 d15)
  (aW:Ng K "ramp" f16) (aj:eB K "ramp" Bn f16 d16)
  (aX:Ng K "pieces_in" m3) (ak:eB K "pieces_in" YB m3 d17)
  (aY:Ng K "pieces_of" f18) (al:eB K "pieces_of" ZI f18 d18)
  (aZ:Ng K "progress" f19) (am:eB K "progress" kg f19 d19)
  (b0:Ng K "within" An) (an:eB K "within" WQ An d20)
  (aM:Nx K b "__init__" f21) (aO:W.isFn K (.ref f21)=true) (Q:fi K "__init__" "Stage.__init__" qa f21 d21)
  (b1:Nx K b "scene" f22) (bx:W.isFn K (.ref f22)=true) (R:fi K "scene" "Stage.scene" ZW f22 d22)
  (b2:Nx K b "heights_at" f23) (bz:W.isFn K (.ref f23)=true) (S:fi K "heights_at" "Stage.heights_at" Qq f23 d23)
  (b3:Nx K b "words_at" f24) (bA:W.isFn K (.ref f24)=true) (T:fi K "words_at" "Stage.words_at" QZ f24 d24)
  (b4:Ng K "pins_of" f25) (ao:eB K "pins_of" ya f25 d25)
  (b5:Ng K "pins_at" f26) (ap:eB K "pins_at" K7 f26 d26)
  (aN:Nx K a "__init__" f27) (aP:W.isFn K (.ref f27)=true) (U:fi K "__init__" "Machine.__init__" Qp f27 d27)
  (b6:Nx K a "step" f28) (bB:W.isFn K (.ref f28)=true) (Y:fi K "step" "Machine.step" Zn f28 d28)
  (b7:Nx K a "jump" f29) (bC:W.isFn K (.ref f29)=true) (Z:fi K "jump" "Machine.jump" Zk f29 d29)
  (b8:Nx K a "beat" f30) (bD:W.isFn K (.ref f30)=true) (a0:fi K "beat" "Machine.beat" Zj f30 d30)
  (b9:Nx K a "heights" f31) (bE:W.isFn K (.ref f31)=true) (aa:fi K "heights" "Machine.heights" QK f31 d31)
  (ba:Nx K a "pins" f32) (bF:W.isFn K (.ref f32)=true) (ab:fi K "pins" "Machine.pins" Zm f32 d32)
  (bb:Nx K a "kept" f33) (bG:W.isFn K (.ref f33)=true) (ac:fi K "kept" "Machine.kept" Zl f33 d33)
  (bc:Ng K "_law_cell_at" f34) (aq:eB K "_law_cell_at" Zo f34 d34)
  (bd:Ng K "_law_mixed" f35) (ar:eB K "_law_mixed" yz f35 d35)
  (be:Ng K "_law_whole" f36) (as:eB K "_law_whole" yC f36 d36)
  (bf:Ng K "_law_word" f37) (au:eB K "_law_word" Yy f37 d37)
  (bg:Ng K "_law_named" f38) (av:eB K "_law_named" zL f38 d38)
  (bh:Ng K "_law_form" f39) (aw:eB K "_law_form" Yt f39 d39)
  (bi:Ng K "_law_long" f40) (ax:eB K "_law_long" zo f40 d40)
  (bj:Ng K "_law_moves" f41) (ay:eB K "_law_moves" yA f41 d41)
  (bk:Ng K "_law_last" f42) (az:eB K "_law_last" Yu f42 d42)
  (bl:Ng K "_law_take" f43) (aA:eB K "_law_take" Yv f43 d43)
  (bm:Ng K "_law_naming" f44) (aB:eB K "_law_naming" Qj f44 d44)
  (bn:Ng K "_law_form_told" f45) (aC:eB K "_law_form_told" Q1 f45 d45)
  (bo:Ng K "_law_book_told" f46) (aD:eB K "_law_book_told" Q0 f46 d46)
  (bp:Ng K "_law_book" f47) (aE:eB K "_law_book" Yq f47 d47)
  (bq:Ng K "_law_beside" f48) (aF:eB K "_law_beside" Qi f48 d48)
  (br:Ng K "_law_climbed" f49) (aG:eB K "_law_climbed" Zp f49 d49)
  (bs:Ng K "_law_run" f50) (aH:eB K "_law_run" yB f50 d50)
  (bt:Ng K "_law_told" f51) (aI:eB K "_law_told" Yx f51 d51)
  (bu:Ng K "_law_stands" f52) (aJ:eB K "_law_stands" Qk f52 d52)
  (bv:Ng K "_law_done" f53) (aK:eB K "_law_done" Yr f53 d53)
  (bw:Ng K "law" f54) (aL:eB K "law" Bz f54 d54)
  {k:Tok}
  (w:W.nsIn K mainGlobals "FIGURES"= some (some (.str "abcdefghijklmnopqrstuvwxyz" k)))
  {Qb:Addr}
  (j:Ng K "MOST_NAMES" Qb) (kk_MOST_NAMES:rL K Qb [("row",.flat (.int 8)),("side",.flat (.int 4))])
  {c:Addr}
  {d:Addr}
  {g:Addr}
  {f:Addr}
  (P:Ng K "Done" c)
  (i:Ng K "PlayError" d)
  (u:Ng K "NoPins" g)
  (s:Ng K "NoBeat" f)
  (Kk:W.excIn K c [.type "ValueError",.type "Exception",.type "BaseException",.type "object"] "ValueError.__new__"= true)
  (I:W.findIn K (.ref c) "__getattribute__"= some (some (.builtin "BaseException.__getattribute__")))
  (L:Nn K c "__getattr__")
  (H:W.findIn K (.ref c) "__class__"= some (some (.builtin "object.__class__")))
  (F:W.subIn K (.ref c) (.type "BaseException")⊂true)
  (N:W.subIn K (.ref c) (.type "object")⊂true)
  (J:W.isClsIn K c=true)
  (JT:W.exmOne K (.ref c) (.ref d)⊂true)
  (qP:W.kitOne K (.ref c) (.ref g)⊂false)
  (qO:W.kitOne K (.ref c) (.ref f)⊂false)
  (JG:W.kitOne K (.ref c) (.type "ValueError")⊂true)
  (QN:W.kitOne K (.ref c) (.ref c)⊂true)
  (z0:N0 K "ValueError") (z1:N0 K "abs") (z2:N0 K "all") (z3:N0 K "bool") (z4:N0 K "dict") (z5:N0 K "enumerate") (z6:N0 K "int") (z7:N0 K "isinstance") (z8:N0 K "len") (z9:N0 K "list") (bH:N0 K "max") (bI:N0 K "min") (bJ:N0 K "range") (bK:N0 K "reversed") (bL:N0 K "sorted") (bM:N0 K "sum") (bN:N0 K "tuple") (bO:N0 K "zip") :
  ∃t:Ad,Txt K mg t:=by
 have M:∀{x v},W.nsIn K mainGlobals x⊂(some v)->mg x⊂v:=λe=>W.mg_of X G e
 have O:∀{x},N0 K x->mg x=none:=λe=>W.mg_none_of X G e
 rwa[#[f1,_,f2,_,f3,_,f4,_,f5,_,f6,_,f7,_,f8,_,f9,_,f10,_,f11,_,f12,_,f13,_,f14,_,f15,_,f16,_,m3,_,f18,_,f19,_,An,_,f21,_,f22,_,f23,_,f24,_,f25,_,f26,_,f27,_,f28,_,f29,_,f30,_,f31,_,f32,_,f33,_,f34,_,f35,_,f36,_,f37,_,f38,_,f39,_,f40,_,f41,_,f42,_,f43,_,f44,_,f45,_,f46,_,f47,_,f48,_,f49,_,f50,_,f51,_,f52,_,f53,_,f54,_,b,a,c,d,g,f,_,_],#[#[F1,M a1,iZ F1],#[F2,M a2,iZ F2],#[F3,M a3,iZ F3],#[F4,M a4,nS F4],#[F5,M a5,iZ F5],#[F6,M a6,l0 F6],#[F7,M a7,iZ F7],#[F8,M a8,iZ F8],#[F9,M a9,iZ F9],#[ad,M aQ,iZ ad],#[ae,M aR,iZ ae],#[af,M aS,iZ af],#[ag,M aT,nS ag],#[ah,M aU,l0 ah],#[ai,M aV,iZ ai],#[aj,M aW,BZ aj],#[ak,M aX,nS ak],#[al,M aY,l0 al],#[am,M aZ,nS am],#[an,M b0,nS an],Q,#[aM,aO,Q.kp],l0 Q,R,#[b1,bx,R.kp],l0 R,S,#[b2,bz,S.kp],l0 S,T,#[b3,bA,T.kp],l0 T,#[ao,M b4,tm ao],#[ap,M b5,l0 ap],U,#[aN,aP,U.kp],l0 U,Y,#[b6,bB,Y.kp],iZ Y,Z,#[b7,bC,Z.kp],l0 Z,a0,#[b8,bD,a0.kp],iZ a0,aa,#[b9,bE,aa.kp],iZ aa,ab,#[ba,bF,ab.kp],iZ ab,ac,#[bb,bG,ac.kp],iZ ac,#[aq,M bc,l0 aq],#[ar,M bd,l0 ar],#[as,M be,iZ as],#[au,M bf,l0 au],#[av,M bg,BZ av],#[aw,M bh,tm aw],#[ax,M bi,l0 ax],#[ay,M bj,nS ay],#[az,M bk,nS az],#[aA,M bl,l0 aA],#[aB,M bm,tm aB],#[aC,M bn,tm aC],#[aD,M bo,nS aD],#[aE,M bp,nS aE],#[aF,M bq,nS aF],#[aG,M br,l0 aG],#[aH,M bs,nS aH],#[aI,M bt,iZ aI],#[aJ,M bu,tm aJ],#[aK,M bv,iZ aK],#[aL,M bw,iZ aL],#[C,z,D,E],#[B,aM,aO,A],M y,Qh,Q6,JV,Jd,zJ,qI,#[p,m,q,r],#[o,aN,aP,n],M l,Jw,qH,Jc,M P,M i,M u,M s,Kk,#[I,L,H,F,N,J],JT,qP,qO,JG,QN,O z0,O z1,O z2,O z3,O z4,O z5,O z6,O z7,O z8,O z9,O bH,O bI,O bJ,O bK,O bL,O bM,O bN,O bO,M w,#[_,rfl],M j,kk_MOST_NAMES]]
end
end K38
open PySem PySem.W PyProof.Rows
set_option maxRecDepth 100000 in
set_option maxHeartbeats 0 in
theorem PySem.Challenge.cw_camplay_k38_stepped_holds : PySem.Challenge.rw_camplay_k38_stepped.Holds := by
 w_on;o_law;k_head;(case hw=>w_witness2)
 k_fill
 erw[L2.Lh (l:=PySem.Challenge.rw_camplay_k38_stepped) (n:=63) (k:=39) (x:="_law_script") (CX:=L2.pA) (sp:=Pr.gY) rfl nofun rfl #[rfl,by decide,by decide] (λw h Y=>PySem.W.kIn_of Y) ?F (λK H a ns hl hb hO hS=>#[a,ns,rfl,hS,hl,hb,λ_=>rfl]) (λ_ _ _ _ z=>z)]
 case F=>
  intro w mg fa h KX G hmg;have TT:∃t:K38.Ad,K38.Txt (L2.KOf KX) mg t:=by
   dsimp only[L2.KOf];refine' K38.MP KX G ?_ ?_ ?_ ?_ ?_ ?_ ?_ ?_ ?_ ?_ ?_ ?_ ?_ ?_ ?_ ?_ ?_ ?_ ?_ ?_ ?_ ?_ ?_ ?_ (L2.jJ ?_ ?_ ?_) ?_ (L2.jJ ?_ ?_ ?_) ?_ (L2.jJ ?_ ?_ ?_) ?_ (L2.jJ ?_ ?_ ?_) ?_ (L2.jJ ?_ ?_ ?_) ?_ (L2.jJ ?_ ?_ ?_) ?_ (L2.jJ ?_ ?_ ?_) ?_ (L2.jJ ?_ ?_ ?_) ?_ (L2.jJ ?_ ?_ ?_) ?_ (L2.jJ ?_ ?_ ?_) ?_ (L2.jJ ?_ ?_ ?_) ?_ (L2.jJ ?_ ?_ ?_) ?_ (L2.jJ ?_ ?_ ?_) ?_ (L2.jJ ?_ ?_ ?_) ?_ (L2.jJ ?_ ?_ ?_) ?_ (L2.jJ ?_ ?_ ?_) ?_ (L2.jJ ?_ ?_ ?_) ?_ (L2.jJ ?_ ?_ ?_) ?_ (L2.jJ ?_ ?_ ?_) ?_ (L2.jJ ?_ ?_ ?_) ?_ ?_ (L2.jJ ?_ ?_ ?_) ?_ ?_ (L2.jJ ?_ ?_ ?_) ?_ ?_ (L2.jJ ?_ ?_ ?_) ?_ ?_ (L2.jJ ?_ ?_ ?_) ?_ (L2.jJ ?_ ?_ ?_) ?_ (L2.jJ ?_ ?_ ?_) ?_ ?_ (L2.jJ ?_ ?_ ?_) ?_ ?_ (L2.jJ ?_ ?_ ?_) ?_ ?_ (L2.jJ ?_ ?_ ?_) ?_ ?_ (L2.jJ ?_ ?_ ?_) ?_ ?_ (L2.jJ ?_ ?_ ?_) ?_ ?_ (L2.jJ ?_ ?_ ?_) ?_ ?_ (L2.jJ ?_ ?_ ?_) ?_ (L2.jJ ?_ ?_ ?_) ?_ (L2.jJ ?_ ?_ ?_) ?_ (L2.jJ ?_ ?_ ?_) ?_ (L2.jJ ?_ ?_ ?_) ?_ (L2.jJ ?_ ?_ ?_) ?_ (L2.jJ ?_ ?_ ?_) ?_ (L2.jJ ?_ ?_ ?_) ?_ (L2.jJ ?_ ?_ ?_) ?_ (L2.jJ ?_ ?_ ?_) ?_ (L2.jJ ?_ ?_ ?_) ?_ (L2.jJ ?_ ?_ ?_) ?_ (L2.jJ ?_ ?_ ?_) ?_ (L2.jJ ?_ ?_ ?_) ?_ (L2.jJ ?_ ?_ ?_) ?_ (L2.jJ ?_ ?_ ?_) ?_ (L2.jJ ?_ ?_ ?_) ?_ (L2.jJ ?_ ?_ ?_) ?_ (L2.jJ ?_ ?_ ?_) ?_ (L2.jJ ?_ ?_ ?_) ?_ (L2.jJ ?_ ?_ ?_) ?_ (L2.jJ ?_ ?_ ?_) ?_ ?_ ?kk_MOST_NAMES ?_ ?_ ?_ ?_ ?Kk ?_ ?_ ?_ ?_ ?_ ?_ ?JT ?qP ?qO ?JG ?QN ?_ ?_ ?_ ?_ ?_ ?_ ?_ ?_ ?_ ?_ ?_ ?_ ?_ ?_ ?_ ?_ ?_ ?_
   any_goals first | (show PySem.W.nsIn _ _ _=_;k_is) | (show PySem.W.findIn _ _ _=_;k_is) | k_is
   (case kk_MOST_NAMES=>(show PyProof.Rows.KTD.tabLook _ _ _ _=true);kernel_rfl)
   (case Kk=>k_exc)
   (case JT=>kts_exm)
   (case qP=>kit_is)
   (case qO=>kit_is)
   (case JG=>kit_is)
   (case QN=>kit_is)
  let⟨t,T⟩:=TT;let⟨_,_,kV,dc,pm,an,cd,ct,_,e,_⟩:=T.Bp.F.ex;have e0:=hmg.symm.trans T.Bp.m;cases e0;erw[t.sG,λs v=>?_,λbase _ _=>K38.fin T];rw[e];rwa[.of_eq rfl]
#print axioms PySem.Challenge.cw_camplay_k38_stepped_holds
