import PyProof.Rows.All
import Wide.All
import OpenK.AllK
import Wide.FinOn
import Lean
import PyProof.EqAt
import PyProof.EqKinds
import PyProof.TupleCall
import PySem.Challenge.RW_camplay_k08_books_read
set_option Elab.async false
set_option linter.all false
set_option maxRecDepth 100000
set_option maxHeartbeats 4000000
namespace L2
open PySem PySem.Spec PyProof.Rows
noncomputable abbrev Key := Sum Int Str
noncomputable def keyIs : Key → Value → Bool
 | .inl k, v => Value.isInt k v
 | .inr x, v => Value.isStrOf x v
noncomputable def keyH (w : World) : Key → Int
 | .inl k => hashInt k
 | .inr x => hashStr w x
theorem keyIs_shape : ∀ {k : Key} {v : Value}, keyIs k v = true → (∃ i t, k = Sum.inl i ∧ v = Value.int i t) ∨ (∃ x t, k = Sum.inr x ∧ v = Value.str x t)
 | .inl i, v, h => by
  obtain ⟨t, e⟩ := Value.isInt_shape (k := i) (v := v) h
  exact .inl ⟨i, t, rfl, e⟩
 | .inr x, v, h => by
  obtain ⟨t, e⟩ := Value.isStrOf_shape (x := x) (v := v) h
  exact .inr ⟨x, t, rfl, e⟩
theorem keyIs_int (i : Int) (t : Tok) : keyIs (.inl i) (.int i t) = true := by simp [keyIs, Value.isInt]
theorem keyIs_str (x : Str) (t : Tok) : keyIs (.inr x) (.str x t) = true := by simp [keyIs, Value.isStrOf]
theorem key_ll (a b : Int) : decide ((Sum.inl a : Key) = Sum.inl b) = (a == b) := by
 by_cases e : a = b
 ·subst e; simp
 ·have h : ¬ (Sum.inl a : Key) = Sum.inl b := fun q => e (Sum.inl.inj q)
  rw [decide_eq_false h]
  exact (beq_eq_false_iff_ne.mpr e).symm
theorem key_rr (a b : Str) : decide ((Sum.inr a : Key) = Sum.inr b) = decide (a = b) := by
 by_cases e : a = b
 ·subst e; simp
 ·have h : ¬ (Sum.inr a : Key) = Sum.inr b := fun q => e (Sum.inr.inj q)
  rw [decide_eq_false h, decide_eq_false e]
theorem key_lr (a : Int) (b : Str) : decide ((Sum.inl a : Key) = Sum.inr b) = false := decide_eq_false (fun q => nomatch q)
theorem key_rl (a : Str) (b : Int) : decide ((Sum.inr a : Key) = Sum.inl b) = false := decide_eq_false (fun q => nomatch q)
noncomputable def mixKind (prog : Program) (w : World) : PySem.KeyKind prog w Key where
 is := keyIs
 hash := keyH w
 inj := fun v a b ha hb => by
  rcases keyIs_shape ha with ⟨i, t, rfl, rfl⟩ | ⟨x, t, rfl, rfl⟩
  ·rcases keyIs_shape hb with ⟨j, u, rfl, e⟩ | ⟨y, u, rfl, e⟩
   ·injection e with e1 _; rw [e1]
   ·exact nomatch e
  ·rcases keyIs_shape hb with ⟨j, u, rfl, e⟩ | ⟨y, u, rfl, e⟩
   ·exact nomatch e
   ·injection e with e1 _; rw [e1]
 byValue := fun k v h => by
  rcases keyIs_shape h with ⟨i, t, rfl, rfl⟩ | ⟨x, t, rfl, rfl⟩ <;> rfl
 pyHash := fun hv h => by
  rcases keyIs_shape hv with ⟨i, t, rfl, rfl⟩ | ⟨x, t, rfl, rfl⟩
  ·exact wpAny_pyHash_int h
  ·exact wpAny_pyHash_str h
 eqBool := fun hu hv h => by
  rcases keyIs_shape hu with ⟨i, t, rfl, rfl⟩ | ⟨x, t, rfl, rfl⟩
  ·rcases keyIs_shape hv with ⟨j, u, rfl, rfl⟩ | ⟨y, u, rfl, rfl⟩
   ·rw [key_ll] at h; exact wpAny_eqBool_int h
   ·rw [key_lr] at h; exact SeqAt.EqAt.int_str i t y u _ _ _ _ h
  ·rcases keyIs_shape hv with ⟨j, u, rfl, rfl⟩ | ⟨y, u, rfl, rfl⟩
   ·rw [key_rl] at h; exact SeqAt.EqAt.str_int x t j u _ _ _ _ h
   ·rw [key_rr] at h; exact wpAny_eqBool_str h
 «strs» := fun k x t v h => by
  rcases keyIs_shape h with ⟨i, u, rfl, e⟩ | ⟨y, u, rfl, e⟩
  ·exact nomatch e
  ·injection e with e1 _
   subst e1
   cases v <;> rfl
theorem mixKind_int (prog : Program) (w : World) (i : Int) (t : Tok) : (mixKind prog w).is (.inl i) (.int i t) = true := keyIs_int i t
theorem mixKind_str (prog : Program) (w : World) (x : Str) (t : Tok) : (mixKind prog w).is (.inr x) (.str x t) = true := keyIs_str x t
end L2
namespace L2
open PySem PySem.Spec PyProof.Rows
inductive V where
 | non | bl (b : Bool) | int (i : Int) | str (x : Str) | byt (b : Array UInt8) | flt (b : UInt64) | ref (a : Addr) | ty (n : String)
 deriving DecidableEq
noncomputable def RelV : V → Value → Prop
 | .non, u => u = Value.none
 | .bl b, u => u = Value.bool b
 | .int i, u => ∃ t, u = Value.int i t
 | .str x, u => ∃ t, u = Value.str x t
 | .byt b, u => ∃ t, u = Value.bytes b t
 | .flt b, u => ∃ t, u = Value.float b t
 | .ref a, u => u = Value.ref a
 | .ty n, u => u = Value.type n
noncomputable abbrev Vals : List V → List Value → Prop := Paired RelV
theorem Vals.length {xs : List V} {us : List Value} (r : Vals xs us) : xs.length = us.length := Paired.length r
theorem Vals.get : ∀ {xs : List V} {us : List Value} {i : Nat} {x : V}, Vals xs us → xs[i]? = some x → ∃ u, us[i]? = some u ∧ RelV x u
 | _, _, _, _, .nil, e => by simp at e
 | _, _, 0, _, .cons r _, e => by simp at e; subst e; exact ⟨_, rfl, r⟩
 | _, _, i + 1, x, .cons _ t, e => by
  obtain ⟨u, h1, h2⟩ := Vals.get (i := i) (x := x) t (by simpa using e)
  exact ⟨u, by simpa using h1, h2⟩
theorem Vals.set {x : V} {u : Value} (r : RelV x u) : ∀ {xs : List V} {us : List Value} (i : Nat), Vals xs us → Vals (xs.set i x) (us.set i u)
 | _, _, _, .nil => .nil
 | _, _, 0, .cons _ t => .cons r t
 | _, _, i + 1, .cons q t => .cons q (Vals.set r i t)
theorem Vals.append : ∀ {xs ys : List V} {us ws : List Value}, Vals xs us → Vals ys ws → Vals (xs ++ ys) (us ++ ws)
 | _, _, _, _, .nil, s => s
 | _, _, _, _, .cons r t, s => .cons r (Vals.append t s)
theorem Vals.take : ∀ {xs : List V} {us : List Value} (n : Nat), Vals xs us → Vals (xs.take n) (us.take n)
 | _, _, 0, _ => .nil
 | _, _, _ + 1, .nil => .nil
 | _, _, n + 1, .cons r t => .cons r (Vals.take n t)
theorem Vals.drop : ∀ {xs : List V} {us : List Value} (n : Nat), Vals xs us → Vals (xs.drop n) (us.drop n)
 | _, _, 0, r => r
 | _, _, _ + 1, .nil => .nil
 | _, _, n + 1, .cons _ t => Vals.drop n t
noncomputable def RelO : Option V → Option Value → Prop
 | some v, some u => RelV v u
 | none, none => True
 | _, _ => False
noncomputable def KV {κ : Type} : List (κ × V) → List (κ × Value) → Prop := Paired fun (p : κ × V) (q : κ × Value) => p.1 = q.1 ∧ RelV p.2 q.2
noncomputable def kV : Key → V
 | .inl i => .int i
 | .inr x => .str x
inductive HO where
 | lst (xs : List V)
 | tup (xs : List V)
 | dK (kvs : List (Key × V)) | dT (kvs : List (List Key × V))
 | set (S : Int → Bool) (n : Nat)
 | ins (C dx : Addr) (fs : List (Str × V))
 | own (x : Addr)
 | xd (fs : List (Str × V))
 | met (f x : Addr)
 | rng (lo hi : Int)
 | frz (o : Obj) (u : HO)
 | tbl (ps : Array Value)
 | ext (φ : Heap → Prop)
noncomputable abbrev Hp := Addr → Option HO
noncomputable def upd (H : Hp) (a : Addr) (o : HO) : Hp := fun b => if b = a then some o else H b
theorem upd_same {H : Hp} {a : Addr} {o : HO} : upd H a o a = some o := by unfold upd; rw [if_pos rfl]
theorem upd_ne {H : Hp} {a b : Addr} {o : HO} (h : b ≠ a) : upd H a o b = H b := by unfold upd; rw [if_neg h]
theorem ne_of {H : Hp} {a b : Addr} {o u : HO} (h : H a = some o) (h' : H b = some u) (d : o ≠ u) : a ≠ b := by
 intro e; subst e; rw [h] at h'; exact d (Option.some.inj h')
theorem ne_of_none {H : Hp} {a b : Addr} {o : HO} (h : H a = some o) (h' : H b = none) : a ≠ b := by
 intro e; subst e; rw [h] at h'; cases h'
section
variable (P : Program) (w : World)
noncomputable def ObjOk (H : Hp) (h : Heap) (a : Addr) : HO → Prop
 | .lst xs => xs.length ≤ sizeLine ∧ ∃ (its : List Value) (n : Nat), Vals xs its ∧ h.get? a = some { cls := .type "list", data := .seq its.toArray n }
 | .tup xs => xs.length ≤ sizeLine ∧ ∃ its : List Value, Vals xs its ∧ IsTup h a its.toArray
 | .dK kvs => kvs.length ≤ sizeLine ∧ (a == sysModules) = false ∧ ∃ vs, KV kvs vs ∧ h.DictOf (mixKind P w) a vs
 | .dT kvs => kvs.length ≤ sizeLine ∧ (a == sysModules) = false ∧ ∃ xs : List (List Key × Addr × Value),
   Paired (fun (p : List Key × V) (q : List Key × Addr × Value) => p.1 = q.1 ∧ H q.2.1 = some (.tup (p.1.map kV)) ∧ RelV p.2 q.2.2) kvs xs ∧
   ∃ o es ep, h.get? a = some o ∧ o.ExactDict ∧ o.data = .dict es ep ∧ es.toList = xs.map (entryOfKey (tupleKind (mixKind P w))) ∧ (xs.map (·.1)).Nodup
 | .set S n => h.SetOf (intKind P w) a S n
 | .ins C dx fs => H dx = some (.own a) ∧ fs.length ≤ 1000 ∧ dx ≠ a ∧ h.get? a = some (PySem.W.instObj C dx) ∧
   ∃ mA, h.Ns1 dx mA ∧ (∀ f, RelO (fs.lookup f) (mA f)) ∧ PySem.Within mA (fs.map (·.1))
 | .own _ => ∃ o, h.get? a = some o
 | .xd fs => ∃ mA, h.Ns1 a mA ∧ ∀ f, RelO (fs.lookup f) (mA f)
 | .rng lo hi => ∃ t u v, h.get? a = some { cls := .type "range", data := .fields #[.int lo t, .int hi u, .int 1 v] }
 | .frz o u => h.get? a = some o ∧ ObjOk H h a u
 | .tbl ps => h.get? a = some { cls := .none, data := .fields ps }
 | .met f x => h.get? a = some (PySem.W.methodObj (.ref f) (.ref x))
 | .ext φ => φ h ∧ (∃ o, h.get? a = some o) ∧ ∀ h1 h2 : Heap, φ h1 → (∀ o, h1.get? a = some o → h2.get? a = some o) → φ h2
noncomputable def HOk (H : Hp) (h : Heap) : Prop := ∀ a o, H a = some o → ObjOk P w H h a o
end
section
variable {P : Program} {w : World} {H H' : Hp} {h h' : Heap} {a : Addr} {o : HO}
theorem ObjOk.lt (x : ObjOk P w H h a o) : a < h.objs.size := by
 cases o with
 | lst xs => obtain ⟨_, _, _, _, e⟩ := x; exact Heap.lt_size e
 | tup xs => obtain ⟨_, _, _, p⟩ := x; exact p.lt
 | dK kvs => obtain ⟨_, _, _, _, o, _, _, e, _⟩ := x; exact Heap.lt_size e
 | dT kvs => obtain ⟨_, _, _, _, o, _, _, e, _⟩ := x; exact Heap.lt_size e
 | set S n => obtain ⟨o, _, _, _, e, _⟩ := x; exact Heap.lt_size e
 | ins C dx fs => obtain ⟨_, _, _, e, _⟩ := x; exact Heap.lt_size e
 | own y => obtain ⟨_, e⟩ := x; exact Heap.lt_size e
 | xd fs => obtain ⟨_, ⟨_, _, _, e, _⟩, _⟩ := x; exact Heap.lt_size e
 | rng lo hi => obtain ⟨_, _, _, e⟩ := x; exact Heap.lt_size e
 | frz ob u => obtain ⟨e, _⟩ := x; exact Heap.lt_size e
 | tbl ps => exact Heap.lt_size (show h.get? a = some _ from x)
 | met f y => exact Heap.lt_size (show h.get? a = some _ from x)
 | ext φ => obtain ⟨_, ⟨_, e⟩, _⟩ := x; exact Heap.lt_size e
theorem Paired.mapP {α β : Type} {F G : α → β → Prop} : ∀ {l₁ : List α} {l₂ : List β}, Paired F l₁ l₂ → (∀ a b, F a b → G a b) → Paired G l₁ l₂
 | _, _, .nil, _ => .nil
 | _, _, .cons r t, f => .cons (f _ _ r) (Paired.mapP t f)
theorem ObjOk.stay (x : ObjOk P w H h a o) (k : ∀ b u, (b = a ∨ H b = some (.own a)) → h.get? b = some u → h'.get? b = some u)
  (ho : ∀ b, H b = some (.own a) → H' b = some (.own a)) (ht : ∀ b xs, H b = some (.tup xs) → H' b = some (.tup xs)) : ObjOk P w H' h' a o := by
 induction o with
 | lst xs => obtain ⟨z, its, n, r, e⟩ := x; exact ⟨z, its, n, r, k _ _ (.inl rfl) e⟩
 | tup xs => obtain ⟨z, its, r, ob, e, c⟩ := x; exact ⟨z, its, r, ob, k _ _ (.inl rfl) e, c⟩
 | dK kvs => obtain ⟨z, y, vs, r, ob, es, ep, e, c⟩ := x; exact ⟨z, y, vs, r, ob, es, ep, k _ _ (.inl rfl) e, c⟩
 | dT kvs =>
  obtain ⟨z, y, xs, r, ob, es, ep, e, c⟩ := x
  exact ⟨z, y, xs, Paired.mapP r fun p q z => ⟨z.1, ht _ _ z.2.1, z.2.2⟩, ob, es, ep, k _ _ (.inl rfl) e, c⟩
 | set S n => obtain ⟨ob, es, ep, t, e, c⟩ := x; exact ⟨ob, es, ep, t, k _ _ (.inl rfl) e, c⟩
 | ins C dx fs =>
  obtain ⟨d, z, ne, e, mA, ⟨od, es, ep, e2, c⟩, r⟩ := x
  exact ⟨ho _ d, z, ne, k _ _ (.inl rfl) e, mA, ⟨od, es, ep, k _ _ (.inr d) e2, c⟩, r⟩
 | own y => obtain ⟨ob, e⟩ := x; exact ⟨ob, k _ _ (.inl rfl) e⟩
 | xd fs => obtain ⟨mA, ⟨od, es, ep, e, c⟩, r⟩ := x; exact ⟨mA, ⟨od, es, ep, k _ _ (.inl rfl) e, c⟩, r⟩
 | rng lo hi => obtain ⟨t, u, v, e⟩ := x; exact ⟨t, u, v, k _ _ (.inl rfl) e⟩
 | frz ob u ih => obtain ⟨e, q⟩ := x; exact ⟨k _ _ (.inl rfl) e, ih q⟩
 | tbl ps =>
  have e : h.get? a = some { cls := .none, data := .fields ps } := x
  show h'.get? a = some { cls := .none, data := .fields ps }
  exact k a _ (.inl rfl) e
 | met f y =>
  have e : h.get? a = some (PySem.W.methodObj (.ref f) (.ref y)) := x
  show h'.get? a = some (PySem.W.methodObj (.ref f) (.ref y))
  exact k a _ (.inl rfl) e
 | ext φ => obtain ⟨p, ⟨o, e⟩, st⟩ := x; exact ⟨st _ _ p fun o q => k _ _ (.inl rfl) q, ⟨o, k _ _ (.inl rfl) e⟩, st⟩
theorem HOk.lt (x : HOk P w H h) (e : H a = some o) : a < h.objs.size := (x a o e).lt
theorem HOk.fresh (x : HOk P w H h) (e : h.objs.size ≤ a) : H a = none := by
 cases q : H a with
 | none => rfl
 | some u => exact absurd (Nat.lt_of_lt_of_le (x.lt q) e) (Nat.lt_irrefl _)
theorem HOk.kept (x : HOk P w H h) (k : ∀ b u, h.get? b = some u → h'.get? b = some u) : HOk P w H h' := fun a o e =>
 (x a o e).stay (fun b u _ q => k b u q) (fun _ q => q) fun _ _ q => q
theorem HOk.laid (x : HOk P w H h) (k : ∀ b u, h.get? b = some u → h'.get? b = some u) (hp : h.objs.size ≤ a) (new : ObjOk P w (upd H a o) h' a o) : HOk P w (upd H a o) h' := fun b u e => by
 have hn := x.fresh hp
 by_cases hb : b = a
 ·subst hb; rw [upd_same] at e; cases e; exact new
 ·rw [upd_ne hb] at e
  exact (x b u e).stay (fun c v _ q => k c v q) (fun c q => by rw [upd_ne (ne_of_none q hn)]; exact q) fun c xs q => by rw [upd_ne (ne_of_none q hn)]; exact q
end
noncomputable def Rd (H : Hp) (a : Addr) (u : HO) : Prop := H a = some u ∨ ∃ o, H a = some (.frz o u)
theorem Rd.ok {P : Program} {w : World} {H : Hp} {h : Heap} {a : Addr} {u : HO} (r : Rd H a u) (x : HOk P w H h) : ObjOk P w H h a u := by
 rcases r with r | ⟨o, r⟩
 ·exact x a u r
 ·obtain ⟨_, q⟩ := x a _ r
  exact q
noncomputable def Mut : Option HO → Prop
 | some (.lst _) => True
 | some (.dK _) => True
 | some (.dT _) => True
 | some (.set _ _) => True
 | some (.ins _ _ _) => True
 | some (.ext _) => True
 | _ => False
section
variable {P : Program} {w : World} {H : Hp} {h h' : Heap} {x e : Addr} {o' : HO}
theorem HOk.write (ok : HOk P w H h) (mu : Mut (H x)) (he : e = x ∨ H e = some (.own x)) (k : ∀ b u, b ≠ e → h.get? b = some u → h'.get? b = some u) (heo : ∃ u, h'.get? e = some u)
  (new : ObjOk P w (upd H x o') h' x o') : HOk P w (upd H x o') h' := fun b u q => by
 have nown : ∀ c y, H c = some (.own y) → c ≠ x := fun c y r z => by subst z; rw [r] at mu; exact mu
 have ntup : ∀ c xs, H c = some (.tup xs) → c ≠ x := fun c xs r z => by subst z; rw [r] at mu; exact mu
 by_cases hb : b = x
 ·subst hb; rw [upd_same] at q; cases q; exact new
 ·rw [upd_ne hb] at q
  by_cases hbe : b = e
  ·have q' : H b = some (.own x) := by
    rcases he with z | z
    ·exact absurd (hbe.trans z) hb
    ·rw [hbe]; exact z
   rw [q] at q'; cases q'
   obtain ⟨v, hv⟩ := heo
   exact ⟨v, by rw [hbe]; exact hv⟩
  ·refine (ok b u q).stay (fun c v hc r => k c v ?_ r) (fun c r => by rw [upd_ne (nown c b r)]; exact r) fun c xs r => by rw [upd_ne (ntup c xs r)]; exact r
   rcases hc with rfl | hc
   ·exact hbe
   ·rintro rfl
    rcases he with z | z
    ·exact nown c b hc z
    ·rw [hc] at z; cases z; exact hb rfl
end
structure Un (fs ex : List Addr) (H H' : Hp) (h h' : Heap) : Prop where
 keep : ∀ b o, h.get? b = some o → H b = none → b ∉ fs → b ∉ ex → h'.get? b = some o
 slot : ∀ b o, h.get? b = some o → H b = none → b ∈ fs → b ∉ ex → ∃ sl, h'.get? b = some { o with slots := sl }
 free : ∀ b o, h.get? b = some o → H b = none → b ∉ ex → H' b = none
 there : ∀ b o, h.get? b = some o → b ∉ ex → ∃ o', h'.get? b = some o'
 tups : ∀ b xs, H b = some (.tup xs) → H' b = some (.tup xs)
 frzs : ∀ b o u, H b = some (.frz o u) → H' b = some (.frz o u)
 tbls : ∀ b ps, H b = some (.tbl ps) → ∃ more, H' b = some (.tbl (ps ++ more))
section
variable {fs fs' ex ex' : List Addr} {H H1 H2 : Hp} {h h1 h2 h' : Heap} {a x e : Addr} {o : HO}
theorem Un.any (u : Un fs ex H H1 h h1) {b : Addr} {ob : Obj} (q : h.get? b = some ob) (n : H b = none) (hx : b ∉ ex) : ∃ sl, h1.get? b = some { ob with slots := sl } := by
 by_cases hb : b ∈ fs
 ·exact u.slot b ob q n hb hx
 ·exact ⟨ob.slots, u.keep b ob q n hb hx⟩
theorem Un.kept (k : ∀ b u, h.get? b = some u → h'.get? b = some u) : Un fs ex H H h h' :=
 ⟨fun b ob q _ _ _ => k b ob q, fun b ob q _ _ _ => ⟨ob.slots, k b ob q⟩, fun _ _ _ n _ => n, fun b ob q _ => ⟨ob, k b ob q⟩, fun _ _ q => q, fun _ _ _ q => q, fun _ ps q => ⟨#[], by rw [q]; simp⟩⟩
theorem Un.refl : Un fs ex H H h h := Un.kept fun _ _ q => q
theorem Un.laid (k : ∀ b u, h.get? b = some u → h'.get? b = some u) (hp : h.objs.size ≤ a) (hn : H a = none) : Un fs ex H (upd H a o) h h' where
 keep := fun b u q _ _ _ => k b u q
 slot := fun b u q _ _ _ => ⟨u.slots, k b u q⟩
 free := fun b u q n _ => by rw [upd_ne (Nat.ne_of_lt (Nat.lt_of_lt_of_le (Heap.lt_size q) hp))]; exact n
 there := fun b u q _ => ⟨u, k b u q⟩
 tups := fun b xs q => by rw [upd_ne (ne_of_none q hn)]; exact q
 frzs := fun b u xs q => by rw [upd_ne (ne_of_none q hn)]; exact q
 tbls := fun b ps q => ⟨#[], by rw [upd_ne (ne_of_none q hn), q]; simp⟩
theorem Un.write (mu : Mut (H x)) (he : e = x ∨ H e = some (.own x)) (k : ∀ b u, b ≠ e → h.get? b = some u → h'.get? b = some u) (heo : ∃ u, h'.get? e = some u) : Un fs ex H (upd H x o) h h' := by
 have hx : ∀ b, H b = none → b ≠ x := fun b n z => by subst z; rw [n] at mu; exact mu
 have hb : ∀ b, H b = none → b ≠ e := fun b n z => by
  subst z
  rcases he with r | r
  ·exact hx b n r
  ·rw [n] at r; cases r
 have hm : ∀ b u, H b = some u → ¬ Mut (some u) → b ≠ x := fun b u q nm z => by subst z; rw [q] at mu; exact nm mu
 refine ⟨fun b u q n _ _ => k b u (hb b n) q, fun b u q n _ _ => ⟨u.slots, k b u (hb b n) q⟩, fun b u q n _ => by rw [upd_ne (hx b n)]; exact n, fun b u q _ => ?_,
  fun b xs q => by rw [upd_ne (hm b _ q fun z => z)]; exact q, fun b u xs q => by rw [upd_ne (hm b _ q fun z => z)]; exact q, fun b ps q => ⟨#[], by rw [upd_ne (hm b _ q fun z => z), q]; simp⟩⟩
 by_cases hbe : b = e
 ·subst hbe; exact heo
 ·exact ⟨u, k b u hbe q⟩
end
noncomputable def trk (h : Heap) (H : Hp) : List Addr := (List.range h.objs.size).filter fun a => (H a).isSome
noncomputable def hidT (h : Heap) (H : Hp) : Heap := PySem.W.hideAll h (trk h H)
theorem hidT_size (h : Heap) (H : Hp) : (hidT h H).objs.size = h.objs.size := PySem.W.hideAll_size _ _
theorem hidT_get {h : Heap} {H : Hp} {b : Addr} {o : Obj} (e : h.get? b = some o) (n : H b = none) : (hidT h H).get? b = some o :=
 PySem.W.hideAll_get _ e fun hm => by
  have q : (H b).isSome = true := (List.mem_filter.mp hm).2
  rw [n] at q; simp at q
theorem of_hidT {h : Heap} {H : Hp} {b : Addr} {o : Obj} (e : (hidT h H).get? b = some o) : h.get? b = some o ∧ H b = none := by
 have e' : h.get? b = some o := PySem.W.of_hideAll (trk h H) e
 refine ⟨e', ?_⟩
 cases q : H b with
 | none => rfl
 | some x =>
  have hm : b ∈ trk h H := List.mem_filter.mpr ⟨List.mem_range.mpr (Heap.lt_size e'), by simp [q]⟩
  have z : (hidT h H).get? b = none := PySem.W.hideAll_none (trk h H) hm
  rw [z] at e; cases e
end L2
namespace L2
open PySem PySem.Spec PyProof.Rows
structure Mod (K : PySem.W.Frag) (mg : Str → Option Value) (base : Heap) : Prop where
 kin : K.In base
 glob : base.Ns mainGlobals mg
 blt : ∃ mb, base.Ns builtinsNs mb ∧ ∀ x : Str, x ≠ "__name__" → mb x = bootBuiltins x
 nolimit : base.NoLimit
structure Cx where
 prog : Program
 w : World
 K : PySem.W.Frag
 mg : Str → Option Value
 base : Heap
 A : Around
 N : List Str
 s₀ : Shared
 H₀ : Hp
 env : Env
 outer : List Env
 stack : List Env
 ex : List Addr
 fn : Str → Bool
 calm : Bool
 pn : List (Addr × Obj)
 xe : Value → Shared → Prop
noncomputable def frs (l : List Env) : List Addr := l.filterMap (·.frame)
noncomputable abbrev Cx.fs (X : Cx) : List Addr := frs X.outer
noncomputable def Vis (sc : Scope) (x : Str) : Prop := sc.names.lookup x = some .local ∨ sc.names.lookup x = some .cell ∨ sc.names.lookup x = some .free
noncomputable def Loc (sc : Scope) (x : Str) : Prop := sc.names.lookup x = some .local ∨ sc.names.lookup x = some .cell
noncomputable def Look (env : Env) (h : Heap) (m : Str → Option Value) (x : Str) (u : Value) : Prop :=
 (env.kindOf x = some .local ∧ m x = some u) ∨ ((env.kindOf x = some .cell ∨ env.kindOf x = some .free) ∧ ∃ c, env.cells.lookup x = some c ∧ h.IsCell c (some u))
structure Cx.Ok (X : Cx) : Prop where
 mod : Mod X.K X.mg X.base
 kind : X.env.scope.kind = .function
 glob : X.env.globals = mainGlobals
 blt : X.env.builtins = builtinsNs
 above : X.s₀.heap.objs.size ≤ X.env.locals
 inj : ∀ x y c, X.env.cells.lookup x = some c → X.env.cells.lookup y = some c → x = y
 has : ∀ x, (X.env.kindOf x = some .cell ∨ X.env.kindOf x = some .free) → ∃ c, X.env.cells.lookup x = some c
 cab : ∀ x c, X.fn x = true → X.env.cells.lookup x = some c → X.s₀.heap.objs.size ≤ c
 hd : X.calm = true → X.A.handled = none
 frames : X.A.frames = some X.stack
 stk : X.stack = X.outer ∨ (X.stack = X.env :: X.outer ∧ X.env.frame = some X.env.locals)
 exf : ∀ b ∈ X.ex, b ≠ X.env.locals ∧ ∀ x c, X.env.cells.lookup x = some c → c ≠ b
 bs : ∀ b o, X.base.get? b = some o → X.s₀.heap.get? b = some o ∧ X.H₀ b = none
 bsz : X.base.objs.size ≤ X.s₀.heap.objs.size
 noex : ∀ b o, X.base.get? b = some o → b ∉ X.ex
 exfs : ∀ b ∈ X.ex, b ∉ X.fs
 funs : X.s₀.heap.FunFrames X.base X.outer
 frf : ∀ b ∈ X.fs, X.H₀ b = none
structure Inv (X : Cx) (pins : List (Addr × Obj)) (σ : List (Option V)) (H : Hp) (s : Shared) : Prop where
 ok : X.Ok
 os : s.os = X.s₀.os
 bare : AllBare s.gens
 base : Un X.fs X.ex X.H₀ H X.s₀.heap s.heap
 loc : ∃ m, s.heap.Ns X.env.locals m ∧ ∀ (i : Nat) (x : Str) (v : V), X.N[i]? = some x → σ[i]? = some (some v) → Vis X.env.scope x → ∃ u, RelV v u ∧ Look X.env s.heap m x u
 cell : ∀ x c, X.env.cells.lookup x = some c → ∃ v, s.heap.IsCell c v
 free : H X.env.locals = none
 freeC : ∀ x c, X.env.cells.lookup x = some c → H c = none
 pin : ∀ p ∈ X.pn ++ pins, s.heap.get? p.1 = some p.2 ∧ H p.1 = none ∧ p.1 ≠ X.env.locals ∧ p.1 ∉ X.fs ∧ ∀ v, p.2.data ≠ .cell v
 hok : HOk X.prog X.w H s.heap
 len : σ.length = X.N.length
section
variable {X : Cx} {pins : List (Addr × Obj)} {σ : List (Option V)} {H H' : Hp} {s : Shared} {h' : Heap}
theorem Cx.Ok.nofr (ok : X.Ok) {b : Addr} {o : Obj} (e : X.base.get? b = some o) : b ∉ X.fs := fun hb => by
 have := (ok.funs.mem hb).1
 rw [e] at this; cases this
theorem Inv.bs (I : Inv X pins σ H s) : ∀ b o, X.base.get? b = some o → s.heap.get? b = some o ∧ H b = none := fun b o e =>
 ⟨I.base.keep b o (I.ok.bs b o e).1 (I.ok.bs b o e).2 (I.ok.nofr e) (I.ok.noex b o e), I.base.free b o (I.ok.bs b o e).1 (I.ok.bs b o e).2 (I.ok.noex b o e)⟩
theorem Inv.bk (I : Inv X pins σ H s) : ∀ b o, X.base.get? b = some o → s.heap.get? b = some o := fun b o e => (I.bs b o e).1
theorem Inv.mod (I : Inv X pins σ H s) : Mod X.K X.mg X.base := I.ok.mod
theorem Inv.kIn (I : Inv X pins σ H s) : X.K.In s.heap := I.ok.mod.kin.keeps I.bk
theorem Inv.lt (I : Inv X pins σ H s) : X.env.locals < s.heap.objs.size := let ⟨_, hn, _⟩ := I.loc; hn.lt
theorem Inv.sz (I : Inv X pins σ H s) : X.s₀.heap.objs.size ≤ s.heap.objs.size := Nat.le_trans I.ok.above (Nat.le_of_lt I.lt)
theorem Inv.nofs (I : Inv X pins σ H s) {a : Addr} (h : s.heap.objs.size ≤ a) : a ∉ X.fs := fun hb => by
 obtain ⟨_, o, ho, _⟩ := I.ok.funs.mem hb
 exact absurd (Nat.lt_of_lt_of_le (Heap.lt_size ho) (Nat.le_trans I.sz h)) (Nat.lt_irrefl _)
theorem Inv.cne (I : Inv X pins σ H s) : ∀ x c, X.env.cells.lookup x = some c → c ≠ X.env.locals := fun x c e z => by
 obtain ⟨v, o, ho, hd⟩ := I.cell x c e
 obtain ⟨m, ⟨o', es, ep, ho', hd', _⟩, _⟩ := I.loc
 rw [z, ho'] at ho; cases ho; rw [hd'] at hd; cases hd
theorem Inv.funs (I : Inv X pins σ H s) : s.heap.FunFrames X.base X.outer := by
 have all : ∀ (l : List Env), (∀ b ∈ frs l, b ∈ X.fs) → X.s₀.heap.FunFrames X.base l → s.heap.FunFrames X.base l := by
  intro l
  induction l with
  | nil => intro _ _; trivial
  | cons env r ih =>
   intro hs hl
   obtain ⟨hk, ⟨L, o, hf, hn, ho, hd⟩, hr⟩ := hl
   have hL : L ∈ X.fs := hs L (by unfold frs; rw [List.filterMap_cons, hf]; exact List.mem_cons_self)
   obtain ⟨sl, e⟩ := I.base.slot L o ho (I.ok.frf L hL) hL fun z => I.ok.exfs L z hL
   exact ⟨hk, ⟨L, _, hf, hn, e, hd⟩, ih (fun b hb => hs b (by unfold frs; rw [List.filterMap_cons, hf]; exact List.mem_cons_of_mem _ hb)) hr⟩
 exact all X.outer (fun _ hb => hb) I.ok.funs
theorem Inv.stack (I : Inv X pins σ H s) : s.heap.FunFrames X.base X.stack := by
 rcases I.ok.stk with e | ⟨e, hf⟩
 ·rw [e]; exact I.funs
 ·rw [e]
  obtain ⟨m, hn, _⟩ := I.loc
  refine .cons (by rw [I.ok.kind]; decide) hf hn ?_ I.funs
  exact Heap.get?_none_of_le (Nat.le_trans I.ok.bsz I.ok.above)
theorem Inv.stkSub (I : Inv X pins σ H s) : ∀ b ∈ frs X.stack, b ∈ X.env.locals :: X.fs := fun b hb => by
 rcases I.ok.stk with e | ⟨e, hf⟩
 ·rw [e] at hb; exact List.mem_cons_of_mem _ hb
 ·rw [e] at hb
  unfold frs at hb
  rw [List.filterMap_cons, hf] at hb
  exact hb
theorem Inv.stkFree (I : Inv X pins σ H s) : ∀ b ∈ frs X.stack, H b = none := fun b hb => by
 rcases List.mem_cons.mp (I.stkSub b hb) with e | hb
 ·rw [e]; exact I.free
 ·obtain ⟨_, o, ho, _⟩ := I.ok.funs.mem hb
  exact I.base.free b o ho (I.ok.frf b hb) fun z => I.ok.exfs b z hb
theorem Inv.step {g' : Array GenState} {t' : Nat} {d' : Drawn} {ch : List Addr} (I : Inv X pins σ H s)
  (hch : ∀ b ∈ ch, (b ∈ X.ex ∨ X.s₀.heap.objs.size ≤ b) ∧ b ≠ X.env.locals ∧ (∀ x c, X.env.cells.lookup x = some c → c ≠ b) ∧ ∀ p ∈ X.pn ++ pins, p.1 ≠ b)
  (keep : ∀ b o, b ≠ X.env.locals → b ∉ X.fs → b ∉ ch → s.heap.get? b = some o → H b = none → h'.get? b = some o)
  (slot : ∀ b o, b ≠ X.env.locals → b ∈ X.fs → b ∉ ch → s.heap.get? b = some o → H b = none → ∃ sl, h'.get? b = some { o with slots := sl }) (free : ∀ b o, b ∉ ch → s.heap.get? b = some o → H b = none → H' b = none)
  (there : ∀ b o, b ∉ ch → s.heap.get? b = some o → ∃ o', h'.get? b = some o')
  (tups : ∀ b xs, H b = some (.tup xs) → H' b = some (.tup xs)) (frzs : ∀ b o u, H b = some (.frz o u) → H' b = some (.frz o u)) (tbls : ∀ b ps, H b = some (.tbl ps) → ∃ more, H' b = some (.tbl (ps ++ more)))
  (ns : ∀ m, s.heap.Ns X.env.locals m → h'.Ns X.env.locals m) (hok : HOk X.prog X.w H' h') (hg : AllBare g') :
  Inv X pins σ H' { s with heap := h', gens := g', drawn := d', toks := t' } := by
 have neL : ∀ b o, X.s₀.heap.get? b = some o → b ≠ X.env.locals := fun b o e => Nat.ne_of_lt (Nat.lt_of_lt_of_le (Heap.lt_size e) I.ok.above)
 have neC : ∀ b o, X.s₀.heap.get? b = some o → b ∉ X.ex → b ∉ ch := fun b o e hx hb => by
  rcases (hch b hb).1 with z | z
  ·exact hx z
  ·exact absurd (Nat.lt_of_lt_of_le (Heap.lt_size e) z) (Nat.lt_irrefl _)
 have cellK : ∀ x c, X.env.cells.lookup x = some c → ∀ v, s.heap.IsCell c v → h'.IsCell c v := fun x c e v ⟨o, ho, hd⟩ => by
  have nch : c ∉ ch := fun z => (hch c z).2.2.1 x c e rfl
  by_cases hc : c ∈ X.fs
  ·obtain ⟨sl, q⟩ := slot c o (I.cne x c e) hc nch ho (I.freeC x c e)
   exact ⟨_, q, hd⟩
  ·exact ⟨o, keep c o (I.cne x c e) hc nch ho (I.freeC x c e), hd⟩
 refine ⟨I.ok, I.os, hg, ⟨fun b o e n hb hx => ?_, fun b o e n hb hx => ?_, fun b o e n hx => ?_, fun b o e hx => ?_, fun b xs e => tups b xs (I.base.tups b xs e), fun b o xs e => frzs b o xs (I.base.frzs b o xs e), fun b ps e => ?_⟩, ?_, fun x c e => ?_, ?_, fun x c e => ?_, fun p hp => ?_, hok, I.len⟩
 ·exact keep b o (neL b o e) hb (neC b o e hx) (I.base.keep b o e n hb hx) (I.base.free b o e n hx)
 ·obtain ⟨sl, e1⟩ := I.base.slot b o e n hb hx
  obtain ⟨sl', e2⟩ := slot b _ (neL b o e) hb (neC b o e hx) e1 (I.base.free b o e n hx)
  exact ⟨sl', e2⟩
 ·obtain ⟨o', e1⟩ := I.base.there b o e hx
  exact free b o' (neC b o e hx) e1 (I.base.free b o e n hx)
 ·obtain ⟨o', e1⟩ := I.base.there b o e hx
  exact there b o' (neC b o e hx) e1
 ·obtain ⟨m1, e1⟩ := I.base.tbls b ps e
  obtain ⟨m2, e2⟩ := tbls b _ e1
  exact ⟨m1 ++ m2, by rw [e2, Array.append_assoc]⟩
 ·obtain ⟨m, hn, hl⟩ := I.loc
  refine ⟨m, ns m hn, fun i x v e1 e2 e3 => ?_⟩
  obtain ⟨u, r, l⟩ := hl i x v e1 e2 e3
  refine ⟨u, r, ?_⟩
  rcases l with l | ⟨k, c, e, z⟩
  ·exact .inl l
  ·exact .inr ⟨k, c, e, cellK x c e _ z⟩
 ·obtain ⟨v, z⟩ := I.cell x c e
  exact ⟨v, cellK x c e v z⟩
 ·obtain ⟨m, ⟨o, _, _, ho, _⟩, _⟩ := I.loc
  exact free _ o (fun z => (hch _ z).2.1 rfl) ho I.free
 ·obtain ⟨v, o, ho, hd⟩ := I.cell x c e
  exact free c o (fun z => (hch c z).2.2.1 x c e rfl) ho (I.freeC x c e)
 ·obtain ⟨e, n, ne, nf, d⟩ := I.pin p hp
  have nch : p.1 ∉ ch := fun z => (hch p.1 z).2.2.2 p hp rfl
  exact ⟨keep p.1 p.2 ne nf nch e n, free p.1 p.2 nch e n, ne, nf, d⟩
theorem Inv.un {t' : Nat} (I : Inv X pins σ H s) (u : Un X.fs [] H H' s.heap h') (hok : HOk X.prog X.w H' h') : Inv X pins σ H' { s with heap := h', toks := t' } := by
 obtain ⟨m, ⟨o, es, ep, ho, r⟩, _⟩ := id I.loc
 obtain ⟨sl, hL⟩ := u.any ho I.free (by simp)
 exact I.step (g' := s.gens) (d' := s.drawn) (ch := []) (fun _ z => nomatch z) (fun b o _ hb _ e n => u.keep b o e n hb (by simp)) (fun b o _ hb _ e n => u.slot b o e n hb (by simp)) (fun b o _ e n => u.free b o e n (by simp)) (fun b o _ e => u.there b o e (by simp)) u.tups u.frzs u.tbls (fun m' hm => by
  obtain ⟨o', es', ep', ho', r'⟩ := hm
  rw [ho] at ho'; cases ho'
  exact ⟨_, es', ep', hL, r'⟩) hok I.bare
theorem Inv.call {g' : Array GenState} {t' : Nat} {d' : Drawn} {ch : List Addr} (I : Inv X pins σ H s) (u : Un (frs X.stack) ch H H' s.heap h') (hok : HOk X.prog X.w H' h') (hg : AllBare g')
  (hch : ∀ b ∈ ch, (b ∈ X.ex ∨ X.s₀.heap.objs.size ≤ b) ∧ b ≠ X.env.locals ∧ (∀ x c, X.env.cells.lookup x = some c → c ≠ b) ∧ ∀ p ∈ X.pn ++ pins, p.1 ≠ b) :
  Inv X pins σ H' { s with heap := h', gens := g', drawn := d', toks := t' } := by
 obtain ⟨m, ⟨o, es, ep, ho, r⟩, _⟩ := id I.loc
 obtain ⟨sl, hL⟩ := u.any ho I.free fun z => (hch _ z).2.1 rfl
 exact I.step (ch := ch) hch (fun b o hL hb hc e n => u.keep b o e n (fun z => (List.mem_cons.mp (I.stkSub b z)).elim hL hb) hc) (fun b o _ _ hc e n => u.any e n hc) (fun b o hc e n => u.free b o e n hc) (fun b o hc e => u.there b o e hc) u.tups u.frzs u.tbls (fun m' hm => by
  obtain ⟨o', es', ep', ho', r'⟩ := hm
  rw [ho] at ho'; cases ho'
  exact ⟨_, es', ep', hL, r'⟩) hok hg
theorem Inv.turned {t' : Nat} {it : Addr} (I : Inv X pins σ H s) (k : ∀ b o, b ≠ it → s.heap.get? b = some o → h'.get? b = some o) (hn : H it = none) (hL : it ≠ X.env.locals)
  (h1 : it ∈ X.ex ∨ X.s₀.heap.objs.size ≤ it) (h2 : ∀ x c, X.env.cells.lookup x = some c → c ≠ it) (h3 : ∀ p ∈ X.pn ++ pins, p.1 ≠ it) : Inv X pins σ H { s with heap := h', toks := t' } := by
 have nit : ∀ b u, H b = some u → b ≠ it := fun b u e z => by rw [z, hn] at e; cases e
 refine I.step (g' := s.gens) (d' := s.drawn) (ch := [it]) (fun b hb => ?_) (fun b o _ _ hc e _ => k b o (fun z => hc (by simp [z])) e) (fun b o _ _ hc e _ => ⟨o.slots, k b o (fun z => hc (by simp [z])) e⟩) (fun _ _ _ _ n => n)
  (fun b o hc e => ⟨o, k b o (fun z => hc (by simp [z])) e⟩) (fun _ _ e => e) (fun _ _ _ e => e) (fun b ps e => ⟨#[], by rw [e]; simp⟩) (fun m hm => ?_) (fun b u e => ?_) I.bare
 ·have e : b = it := by simpa using hb
  subst e
  exact ⟨h1, hL, h2, h3⟩
 ·obtain ⟨o, es, ep, ho, r⟩ := hm
  exact ⟨o, es, ep, k _ o (Ne.symm hL) ho, r⟩
 ·refine (I.hok b u e).stay (fun c v hc q => k c v ?_ q) (fun _ q => q) fun _ _ q => q
  rcases hc with z | z
  ·rw [z]; exact nit b u e
  ·exact nit c _ z
theorem Inv.tok (I : Inv X pins σ H s) (t : Nat) : Inv X pins σ H { s with toks := t } := I.un (h' := s.heap) (t' := t) Un.refl I.hok
theorem Inv.kept {t' : Nat} (I : Inv X pins σ H s) (k : ∀ b u, s.heap.get? b = some u → h'.get? b = some u) : Inv X pins σ H { s with heap := h', toks := t' } := I.un (Un.kept k) (I.hok.kept k)
theorem Inv.laid {a : Addr} {o : HO} {t' : Nat} (I : Inv X pins σ H s) (k : ∀ b u, s.heap.get? b = some u → h'.get? b = some u) (hp : s.heap.objs.size ≤ a) (new : ObjOk X.prog X.w (upd H a o) h' a o) :
  Inv X pins σ (upd H a o) { s with heap := h', toks := t' } := I.un (Un.laid k hp (I.hok.fresh hp)) (I.hok.laid k hp new)
theorem Inv.write {x e : Addr} {o : HO} {t' : Nat} (I : Inv X pins σ H s) (mu : Mut (H x)) (he : e = x ∨ H e = some (.own x)) (k : ∀ b u, b ≠ e → s.heap.get? b = some u → h'.get? b = some u) (heo : ∃ u, h'.get? e = some u)
  (new : ObjOk X.prog X.w (upd H x o) h' x o) : Inv X pins σ (upd H x o) { s with heap := h', toks := t' } := I.un (Un.write mu he k heo) (I.hok.write mu he k heo new)
theorem Inv.weak {σ' : List (Option V)} (I : Inv X pins σ H s) (hl : σ'.length = σ.length) (w : ∀ (i : Nat) v, σ'[i]? = some (some v) → σ[i]? = some (some v)) : Inv X pins σ' H s :=
 ⟨I.ok, I.os, I.bare, I.base, let ⟨m, hn, hl'⟩ := I.loc; ⟨m, hn, fun i x v e1 e2 e3 => hl' i x v e1 (w i v e2) e3⟩, I.cell, I.free, I.freeC, I.pin, I.hok, hl.trans I.len⟩
theorem Inv.pins_of {pins' : List (Addr × Obj)} (I : Inv X pins σ H s) (h : ∀ p ∈ pins', s.heap.get? p.1 = some p.2 ∧ H p.1 = none ∧ p.1 ≠ X.env.locals ∧ p.1 ∉ X.fs ∧ ∀ v, p.2.data ≠ .cell v) : Inv X pins' σ H s :=
 ⟨I.ok, I.os, I.bare, I.base, I.loc, I.cell, I.free, I.freeC, fun p hp => (List.mem_append.mp hp).elim (fun z => I.pin p (List.mem_append_left _ z)) (h p), I.hok, I.len⟩
theorem nodup_ix {N : List Str} (hN : N.Nodup) {i j : Nat} {x : Str} (a : N[i]? = some x) (b : N[j]? = some x) : i = j := by
 obtain ⟨h1, e1⟩ := List.getElem?_eq_some_iff.mp a
 obtain ⟨h2, e2⟩ := List.getElem?_eq_some_iff.mp b
 exact (List.getElem_inj hN).mp (e1.trans e2.symm)
theorem store_ok2 {M : Model} {A : Around} {E : Value → Shared → Prop} {i : Nat} {x : Str} {v : V} {u : Value} {Q : Unit → Shared → Prop} (I : Inv X pins σ H s) (hN : X.N.Nodup) (hi : X.N[i]? = some x) (hx : Loc X.env.scope x) (r : RelV v u)
  (h : ∀ s', Inv X pins (σ.set i (some v)) H s' → (∃ a, Heap.SameBut a s.heap s'.heap ∧ (a = X.env.locals ∨ X.env.cells.lookup x = some a)) → Q () s') (hf : X.fn x = true ∨ X.env.scope.names.lookup x = some .local := by first | exact .inl rfl | exact .inr rfl | assumption) : wpAny M A (storeName X.env x u) Q E s := by
 obtain ⟨m, hn, hl⟩ := id I.loc
 have hcls : (X.env.scope.kind == .class || (X.env.scope.kind == .module && X.env.locals != X.env.globals)) = false := by rw [I.ok.kind]; rfl
 have hiσ : i < σ.length := by rw [I.len]; exact (List.getElem?_eq_some_iff.mp hi).1
 have cne := I.cne
 have tracked : ∀ {a : Addr} {h' : Heap}, (∃ o, s.heap.get? a = some o ∧ H a = none) → Heap.SameBut a s.heap h' → HOk X.prog X.w H h' := fun {a h'} ha hs b ob e => by
  obtain ⟨_, _, hfree⟩ := ha
  refine (I.hok b ob e).stay (fun c w' hc q => (hs.2 c ?_).trans q) (fun _ q => q) fun _ _ q => q
  rintro rfl
  rcases hc with rfl | hc
  ·rw [hfree] at e; cases e
  ·rw [hfree] at hc; cases hc
 rcases hx with hk | hk
 ·refine wpAny_storeName_local hk hn (fun h' hn' hs => ?_) hcls
  obtain ⟨oL, _, _, hoL, _⟩ := id hn
  refine h _ ⟨I.ok, I.os, I.bare, ⟨fun b o e n hb hx => ?_, fun b o e n hb hx => ?_, I.base.free, fun b o e hx => ?_, I.base.tups, I.base.frzs, I.base.tbls⟩, ⟨_, hn', fun j y v' e1 e2 e3 => ?_⟩, fun y c e => ?_, I.free, I.freeC, fun p hp => ?_, tracked ⟨oL, hoL, I.free⟩ hs, by simpa using I.len⟩ ⟨_, hs, .inl rfl⟩
  ·exact (hs.2 b (Nat.ne_of_lt (Nat.lt_of_lt_of_le (Heap.lt_size e) I.ok.above))).trans (I.base.keep b o e n hb hx)
  ·obtain ⟨sl, e1⟩ := I.base.slot b o e n hb hx
   exact ⟨sl, (hs.2 b (Nat.ne_of_lt (Nat.lt_of_lt_of_le (Heap.lt_size e) I.ok.above))).trans e1⟩
  ·obtain ⟨o', e1⟩ := I.base.there b o e hx
   exact ⟨o', (hs.2 b (Nat.ne_of_lt (Nat.lt_of_lt_of_le (Heap.lt_size e) I.ok.above))).trans e1⟩
  ·by_cases hj : j = i
   ·subst hj
    rw [hi] at e1; cases e1
    rw [List.getElem?_set_self hiσ] at e2
    cases e2
    exact ⟨u, r, .inl ⟨hk, by simp⟩⟩
   ·rw [List.getElem?_set_ne (Ne.symm hj)] at e2
    obtain ⟨u', r', q⟩ := hl j y v' e1 e2 e3
    refine ⟨u', r', ?_⟩
    rcases q with ⟨k, e⟩ | ⟨k, c, e, z⟩
    ·refine .inl ⟨k, ?_⟩
     have : y ≠ x := fun e => hj (nodup_ix hN e1 (e ▸ hi))
     simp [this, e]
    ·exact .inr ⟨k, c, e, z.sameBut hs (cne y c e)⟩
  ·obtain ⟨w', z⟩ := I.cell y c e
   exact ⟨w', z.sameBut hs (cne y c e)⟩
  ·obtain ⟨e, n, ne, nf, d⟩ := I.pin p hp
   exact ⟨(hs.2 p.1 ne).trans e, n, ne, nf, d⟩
 ·have hfn : X.fn x = true := by
   rcases hf with z | z
   ·exact z
   ·rw [z] at hk; cases hk
  obtain ⟨c, hc⟩ := I.ok.has x (.inl hk)
  obtain ⟨w', z⟩ := I.cell x c hc
  refine wpAny_storeName_cell I.ok.kind hk hc z (fun h' hc' hs => ?_)
  obtain ⟨oc, hoc, hocd⟩ := id z
  refine h { s with heap := h' } ⟨I.ok, I.os, I.bare, ⟨fun b o e n hb hx => ?_, fun b o e n hb hx => ?_, I.base.free, fun b o e hx => ?_, I.base.tups, I.base.frzs, I.base.tbls⟩, ⟨m, hn.sameBut hs (Ne.symm (cne x c hc)), fun j y v' e1 e2 e3 => ?_⟩, fun y c' e => ?_, I.free, I.freeC, fun p hp => ?_, tracked ⟨oc, hoc, I.freeC x c hc⟩ hs, by simpa using I.len⟩ ⟨c, hs, .inr hc⟩
  ·exact (hs.2 b (Nat.ne_of_lt (Nat.lt_of_lt_of_le (Heap.lt_size e) (I.ok.cab x c hfn hc)))).trans (I.base.keep b o e n hb hx)
  ·obtain ⟨sl, e1⟩ := I.base.slot b o e n hb hx
   exact ⟨sl, (hs.2 b (Nat.ne_of_lt (Nat.lt_of_lt_of_le (Heap.lt_size e) (I.ok.cab x c hfn hc)))).trans e1⟩
  ·obtain ⟨o', e1⟩ := I.base.there b o e hx
   exact ⟨o', (hs.2 b (Nat.ne_of_lt (Nat.lt_of_lt_of_le (Heap.lt_size e) (I.ok.cab x c hfn hc)))).trans e1⟩
  ·by_cases hj : j = i
   ·subst hj
    rw [hi] at e1; cases e1
    rw [List.getElem?_set_self hiσ] at e2
    cases e2
    exact ⟨u, r, .inr ⟨.inl hk, c, hc, hc'⟩⟩
   ·rw [List.getElem?_set_ne (Ne.symm hj)] at e2
    obtain ⟨u', r', q⟩ := hl j y v' e1 e2 e3
    refine ⟨u', r', ?_⟩
    rcases q with q | ⟨k, c', e, z'⟩
    ·exact .inl q
    ·refine .inr ⟨k, c', e, z'.sameBut hs ?_⟩
     rintro rfl
     exact hj (nodup_ix hN e1 (I.ok.inj _ _ _ e hc ▸ hi))
  ·by_cases hcc : c' = c
   ·subst hcc; exact ⟨_, hc'⟩
   ·obtain ⟨w2, z2⟩ := I.cell y c' e
    exact ⟨w2, z2.sameBut hs hcc⟩
  ·obtain ⟨e, n, ne, nf, d⟩ := I.pin p hp
   refine ⟨(hs.2 p.1 ?_).trans e, n, ne, nf, d⟩
   intro q
   rw [q, hoc] at e
   have q' : oc = p.2 := Option.some.inj e
   exact d w' (by rw [← q']; exact hocd)
theorem store_ok {M : Model} {A : Around} {E : Value → Shared → Prop} {i : Nat} {x : Str} {v : V} {u : Value} {Q : Unit → Shared → Prop} (I : Inv X pins σ H s) (hN : X.N.Nodup) (hi : X.N[i]? = some x) (hx : Loc X.env.scope x) (r : RelV v u)
  (h : ∀ s', Inv X pins (σ.set i (some v)) H s' → Q () s') (hf : X.fn x = true ∨ X.env.scope.names.lookup x = some .local := by first | exact .inl rfl | exact .inr rfl | assumption) : wpAny M A (storeName X.env x u) Q E s :=
 store_ok2 I hN hi hx r (fun s' I' _ => h s' I') hf
theorem Inv.call' {s' : Shared} {ch : List Addr} (I : Inv X pins σ H s) (ho : s'.os = s.os) (u : Un (frs X.stack) ch H H' s.heap s'.heap) (hok : HOk X.prog X.w H' s'.heap) (hg : AllBare s'.gens)
  (hch : ∀ b ∈ ch, (b ∈ X.ex ∨ X.s₀.heap.objs.size ≤ b) ∧ b ≠ X.env.locals ∧ (∀ x c, X.env.cells.lookup x = some c → c ≠ b) ∧ ∀ p ∈ X.pn ++ pins, p.1 ≠ b) : Inv X pins σ H' s' := by
 obtain ⟨h', g', d', t', o'⟩ := s'
 have e : o' = s.os := ho
 subst e
 exact I.call (g' := g') (t' := t') (d' := d') u hok hg hch
end
noncomputable abbrev XK := Value → Option Addr → Hp → Prop
noncomputable abbrev St := List (Option V)
noncomputable abbrev VK := V → Hp → Prop
noncomputable abbrev TE := St → Hp → VK → Prop
noncomputable abbrev TT := St → Hp → (Bool → Hp → Prop) → Prop
noncomputable abbrev TA := St → Hp → (List V → Hp → Prop) → Prop
structure Ends where
 nx : St → Hp → Prop
 rt : VK
 bk : St → Hp → Prop := fun _ _ => False
 ct : St → Hp → Prop := fun _ _ => False
noncomputable abbrev TS := Ends → St → Hp → Prop
noncomputable def EP (X : Cx) (pins : List (Addr × Obj)) (σ : St) (Q : VK) (u : Value) (s' : Shared) : Prop := ∃ v H', Inv X pins σ H' s' ∧ RelV v u ∧ Q v H'
noncomputable def TP (X : Cx) (pins : List (Addr × Obj)) (σ : St) (Q : Bool → Hp → Prop) (b : Bool) (s' : Shared) : Prop := ∃ H', Inv X pins σ H' s' ∧ Q b H'
noncomputable def AP (X : Cx) (pins : List (Addr × Obj)) (σ : St) (Q : List V → Hp → Prop) (us : List Value) (s' : Shared) : Prop := ∃ vs H', Inv X pins σ H' s' ∧ Vals vs us ∧ Q vs H'
noncomputable def SP (X : Cx) (pins : List (Addr × Obj)) (D : Ends) (f : Flow) (s' : Shared) : Prop :=
 match f with
 | .next => ∃ σ' H', Inv X pins σ' H' s' ∧ D.nx σ' H'
 | .brk => ∃ σ' H', Inv X pins σ' H' s' ∧ D.bk σ' H'
 | .cont => ∃ σ' H', Inv X pins σ' H' s' ∧ D.ct σ' H'
 | .ret u => ∃ v σ' H', Inv X pins σ' H' s' ∧ RelV v u ∧ D.rt v H'
noncomputable def PE (X : Cx) (e : Expr) (t : TE) : Prop :=
 ∀ (pins : List (Addr × Obj)) (s : Shared) (σ : St) (H : Hp) (Q : VK), Inv X pins σ H s → t σ H Q → wpAny (model X.prog X.w) X.A (eval e X.env) (EP X pins σ Q) X.xe s
noncomputable def PT (X : Cx) (e : Expr) (t : TT) : Prop :=
 ∀ (pins : List (Addr × Obj)) (s : Shared) (σ : St) (H : Hp) (Q : Bool → Hp → Prop), Inv X pins σ H s → t σ H Q → wpAny (model X.prog X.w) X.A (isTrue e X.env (eval e X.env)) (TP X pins σ Q) X.xe s
noncomputable def PW (X : Cx) (e : Expr) (t : TT) : Prop :=
 ∀ (whole : Sem Value) (pins : List (Addr × Obj)) (s : Shared) (σ : St) (H : Hp) (Q : Bool → Hp → Prop), Inv X pins σ H s → t σ H Q → wpAny (model X.prog X.w) X.A (isTrue e X.env whole) (TP X pins σ Q) X.xe s
theorem PW.pt {X : Cx} {e : Expr} {t : TT} (h : PW X e t) : PT X e t := h _
noncomputable def PA (X : Cx) (es : List Expr) (t : TA) : Prop :=
 ∀ (pos : Pos) (pins : List (Addr × Obj)) (s : Shared) (σ : St) (H : Hp) (Q : List V → Hp → Prop), Inv X pins σ H s → t σ H Q → wpAny (model X.prog X.w) X.A (spliced (backTo pos (starEach es X.env))) (AP X pins σ Q) X.xe s
noncomputable def PS (X : Cx) (st : Stmt) (t : TS) : Prop :=
 ∀ (pins : List (Addr × Obj)) (s : Shared) (σ : St) (H : Hp) (D : Ends), Inv X pins σ H s → t D σ H → wpAny (model X.prog X.w) X.A (exec st X.env) (SP X pins D) X.xe s
noncomputable def PSs (X : Cx) (st : List Stmt) (t : TS) : Prop :=
 ∀ (pins : List (Addr × Obj)) (s : Shared) (σ : St) (H : Hp) (D : Ends), Inv X pins σ H s → t D σ H → wpAny (model X.prog X.w) X.A (execs st X.env) (SP X pins D) X.xe s
theorem thn {α : Type} {t : Sem α} {Q Q' : α → Shared → Prop} {M : Model} {A : Around} {E : Value → Shared → Prop} {s : Shared} (h : wpAny M A t Q E s) (hQ : ∀ a s, Q a s → Q' a s) : wpAny M A t Q' E s := wpAny_mono h hQ fun _ _ x => x
end L2
namespace L2
open PySem PySem.Spec PyProof.Rows
section
variable {X : Cx}
noncomputable def tVar (i : Nat) : TE := fun σ H Q => ∃ v, σ[i]? = some (some v) ∧ Q v H
noncomputable def tC (v : V) : TE := fun _ H Q => Q v H
theorem pe_var {i : Nat} {x : Str} {pos : Pos} (hN : X.N[i]? = some x) (hv : Vis X.env.scope x) (hd : (x == ("__debug__" : Str)) = false := by decide) (hcd : (x == ("__classdict__" : Str)) = false := by decide) : PE X (.Name x pos) (tVar i) := by
 intro pins s σ H Q I h
 obtain ⟨v, e, h⟩ := h
 obtain ⟨m, hn, hl⟩ := I.loc
 obtain ⟨u, r, l⟩ := hl i x v hN e hv
 have fin : EP X pins σ Q u s := ⟨v, H, I, r, h⟩
 rcases l with ⟨hk, hm⟩ | ⟨hk, c, hc, hcell⟩
 ·exact wpAny_Name (wpAny_loadName_local I.ok.kind hk hn hm fin) hd
 ·rcases hk with hk | hk
  ·exact wpAny_Name (wpAny_loadName_cell I.ok.kind hk hc hcell fin) hd
  ·exact wpAny_Name (wpAny_loadName_free I.ok.kind hk hc hcell fin hcd) hd
theorem pe_int {i j pos} : PE X (.Constant (.int i) j pos) (tC (.int i)) := fun _ _ _ H _ I h => wpAny_Constant_int ⟨.int i, H, I.tok _, ⟨_, rfl⟩, h⟩
theorem pe_bl {b j pos} : PE X (.Constant (.bool b) j pos) (tC (.bl b)) := fun _ _ _ H _ I h => Constant_bool ⟨.bl b, H, I, rfl, h⟩
theorem pe_non {j pos} : PE X (.Constant .none j pos) (tC .non) := fun _ _ _ H _ I h => Constant_none ⟨.non, H, I, rfl, h⟩
theorem pe_str {x j pos} : PE X (.Constant (.str x) j pos) (tC (.str x)) := fun _ _ _ H _ I h => Calls.Constant_str ⟨.str x, H, I.tok _, ⟨_, rfl⟩, h⟩
noncomputable def Gl (X : Cx) (x : Str) : Prop := X.env.kindOf x = some .globalImplicit
theorem ld_glob {E : Value → Shared → Prop} {pins : List (Addr × Obj)} {s : Shared} {σ : St} {H : Hp} {x : Str} {u : Value} {pos : Pos} {Q : Value → Shared → Prop} (I : Inv X pins σ H s) (hg : Gl X x) (hm : X.mg x = some u) (h : Q u s)
  (hd : (x == ("__debug__" : Str)) = false := by decide) : wpAny (model X.prog X.w) X.A (eval (.Name x pos) X.env) Q E s :=
 Calls.Name_function_global I.ok.kind hg (Calls.loadGlobal_global (by rw [I.ok.glob]; exact I.mod.glob.keeps I.bk) hm h) hd
theorem ld_blt {E : Value → Shared → Prop} {pins : List (Addr × Obj)} {s : Shared} {σ : St} {H : Hp} {x : Str} {u : Value} {pos : Pos} {Q : Value → Shared → Prop} (I : Inv X pins σ H s) (hg : Gl X x) (hm : X.mg x = none) (hv : bootBuiltins x = some u) (h : Q u s)
  (hn : x ≠ "__name__" := by decide) (hd : (x == ("__debug__" : Str)) = false := by decide) : wpAny (model X.prog X.w) X.A (eval (.Name x pos) X.env) Q E s := by
 obtain ⟨mb, h1, h2⟩ := I.mod.blt
 exact Calls.Name_function_global I.ok.kind hg (Calls.loadGlobal_builtin (by rw [I.ok.glob]; exact I.mod.glob.keeps I.bk) hm (by rw [I.ok.blt]; exact h1.keeps I.bk) ((h2 x hn).trans hv) h) hd
theorem pe_glob {x : Str} {v : V} {u : Value} {pos : Pos} (hg : Gl X x) (hm : X.mg x = some u) (r : RelV v u) (hd : (x == ("__debug__" : Str)) = false := by decide) : PE X (.Name x pos) (tC v) :=
 fun _ _ _ H _ I h => ld_glob I hg hm ⟨v, H, I, r, h⟩ hd
theorem pe_bltn {x : Str} {v : V} {u : Value} {pos : Pos} (hg : Gl X x) (hm : X.mg x = none) (hv : bootBuiltins x = some u) (r : RelV v u) (hn : x ≠ "__name__" := by decide) (hd : (x == ("__debug__" : Str)) = false := by decide) : PE X (.Name x pos) (tC v) :=
 fun _ _ _ H _ I h => ld_blt I hg hm hv ⟨v, H, I, r, h⟩ hn hd
variable {a b : Expr} {ta tb : TE} {pos : Pos}
noncomputable def PC (X : Cx) (op : CmpOp) (a b : Expr) (t : TE) : Prop :=
 ∀ (pins : List (Addr × Obj)) (s : Shared) (σ : St) (H : Hp) (Q : VK), Inv X pins σ H s → t σ H Q →
  wpAny (model X.prog X.w) X.A (eval a X.env) (fun v s₁ => wpAny (model X.prog X.w) X.A (eval b X.env) (fun u s₂ => wpAny (model X.prog X.w) X.A (compareOp op v u) (EP X pins σ Q) X.xe s₂) X.xe s₁) X.xe s
noncomputable def tB (t : TE) : TT := fun σ H Q => t σ H fun x H1 => ∃ c, x = .bl c ∧ Q c H1
theorem pe_cmp {op : CmpOp} {t : TE} (h : PC X op a b t) (h1 : behindInMarks op b = false := by first | exact nobehind _ (by decide) (by decide) | rfl) : PE X (.Compare a [op] [b] pos) t := fun pins s σ H Q I hw => wpAny_Compare1 (h pins s σ H Q I hw) h1
theorem pt_cmp {op : CmpOp} {t : TE} (h : PC X op a b t) (h1 : behindInMarks op b = false := by first | exact nobehind _ (by decide) (by decide) | rfl) : PT X (.Compare a [op] [b] pos) (tB t) := by
 intro pins s σ H Q I hw
 refine wpAny_isTrue_Compare1 (thn (h pins s σ H _ I hw) fun v s1 h1 => thn h1 fun u s2 h2 => thn h2 fun c s3 ⟨x, H1, I1, r1, q1⟩ => ?_) h1
 obtain ⟨d, rfl, q⟩ := q1
 cases r1
 exact wpAny_truthy_bool ⟨H1, I1, q⟩
theorem pt_val {e : Expr} {t : TE} (h : PE X e t) (he : ∀ whole, isTrue e X.env whole = (do let v ← whole; standAt e.pos; holding [v] (truthy v)) := by intro _; rfl) : PT X e (tB t) := by
 intro pins s σ H Q I hw
 refine isTrue_plain (thn (h pins s σ H _ I hw) fun v s1 ⟨x, H1, I1, r1, q1⟩ => ?_) (he _)
 obtain ⟨d, rfl, q⟩ := q1
 cases r1
 exact wpAny_truthy_bool ⟨H1, I1, q⟩
variable {tA tB' : TT} {rest : List Expr}
noncomputable def tAnd (t u : TT) : TT := fun σ H Q => t σ H fun c H1 => if c = true then u σ H1 Q else Q false H1
noncomputable def tOr (t u : TT) : TT := fun σ H Q => t σ H fun c H1 => if c = true then Q true H1 else u σ H1 Q
noncomputable def tNot (t : TT) : TT := fun σ H Q => t σ H fun c H1 => Q (!c) H1
theorem pw_and1 (ha : PT X a tA) : PW X (.BoolOp .And [a] pos) tA := by
 intro wh pins s σ H Q I h
 refine isTrue_and (thn (ha pins s σ H Q I h) fun c s1 e => ?_)
 cases c with
 | true => exact isTrue_and_nil e
 | false => exact e
theorem pw_or1 (ha : PT X a tA) : PW X (.BoolOp .Or [a] pos) tA := by
 intro wh pins s σ H Q I h
 refine isTrue_or (thn (ha pins s σ H Q I h) fun c s1 e => ?_)
 cases c with
 | false => exact isTrue_or_nil e
 | true => exact e
theorem pw_and (ha : PT X a tA) (hb : PW X (.BoolOp .And (b :: rest) pos) tB') : PW X (.BoolOp .And (a :: b :: rest) pos) (tAnd tA tB') := by
 intro wh pins s σ H Q I h
 refine isTrue_and (thn (ha pins s σ H _ I h) fun c s1 ⟨H1, I1, q1⟩ => ?_)
 cases c with
 | true => exact hb wh pins s1 σ H1 Q I1 q1
 | false => exact ⟨H1, I1, q1⟩
theorem pw_or (ha : PT X a tA) (hb : PW X (.BoolOp .Or (b :: rest) pos) tB') : PW X (.BoolOp .Or (a :: b :: rest) pos) (tOr tA tB') := by
 intro wh pins s σ H Q I h
 refine isTrue_or (thn (ha pins s σ H _ I h) fun c s1 ⟨H1, I1, q1⟩ => ?_)
 cases c with
 | true => exact ⟨H1, I1, q1⟩
 | false => exact hb wh pins s1 σ H1 Q I1 q1
theorem pt_not (ha : PT X a tA) : PT X (.UnaryOp .Not a pos) (tNot tA) := by
 intro pins s σ H Q I h
 exact isTrue_not (ha pins s σ H (fun c H1 => Q (!c) H1) I h)
noncomputable def tAndV (ta tb : TE) : TE := fun σ H Q => ta σ H fun x H1 => ∃ c, x = .bl c ∧ if c = true then tb σ H1 Q else Q (.bl false) H1
noncomputable def tNotV (ta : TE) : TE := fun σ H Q => ta σ H fun x H1 => ∃ c, x = .bl c ∧ Q (.bl (!c)) H1
theorem pe_one {op} {t : TE} (h : PE X a t) : PE X (.BoolOp op [a] pos) t := fun pins s σ H Q I hw => BoolOp_one (h pins s σ H Q I hw)
theorem pe_and (ha : PE X a ta) (hb : PE X (.BoolOp .And (b :: rest) pos) tb) : PE X (.BoolOp .And (a :: b :: rest) pos) (tAndV ta tb) := by
 intro pins s σ H Q I h
 refine BoolOp_and (thn (ha pins s σ H _ I h) fun v s1 ⟨x, H1, I1, r1, q1⟩ => ?_)
 obtain ⟨c, rfl, q1⟩ := q1
 cases r1
 refine wpAny_truthy_bool ?_
 cases c with
 | true => exact hb pins s1 σ H1 Q I1 q1
 | false => exact ⟨.bl false, H1, I1, rfl, q1⟩
theorem pe_not (ha : PE X a ta) : PE X (.UnaryOp .Not a pos) (tNotV ta) := by
 intro pins s σ H Q I h
 refine UnaryOp_ (thn (ha pins s σ H _ I h) fun v s1 ⟨x, H1, I1, r1, q1⟩ => ?_)
 obtain ⟨c, rfl, q1⟩ := q1
 cases r1
 exact not_of (wpAny_truthy_bool ⟨.bl (!c), H1, I1, rfl, q1⟩)
noncomputable def tIf (t : TT) (ta tb : TE) : TE := fun σ H Q => t σ H fun c H1 => if c = true then ta σ H1 Q else tb σ H1 Q
theorem pe_ifExp {c : Expr} (hc : PT X c tA) (ha : PE X a ta) (hb : PE X b tb) : PE X (.IfExp c a b pos) (tIf tA ta tb) := by
 intro pins s σ H Q I h
 refine wpAny_IfExp (thn (hc pins s σ H _ I h) fun d s1 ⟨H1, I1, q1⟩ => ?_)
 cases d with
 | true => exact ha pins s1 σ H1 Q I1 q1
 | false => exact hb pins s1 σ H1 Q I1 q1
end
end L2
namespace L2
open PySem PySem.Spec PyProof.Rows
noncomputable def SqL (K : PySem.W.Frag) (H : Hp) (a : Addr) (xs : List V) : Prop :=
 Rd H a (.lst xs) ∨
  ∃ (o : Obj) (its : Array Value) (n : Nat), K.lookup a = some o ∧ o.cls = .type "list" ∧ o.dict = none ∧ o.data = .seq its n ∧ its.size ≤ sizeLine ∧ Vals xs its.toList
noncomputable def SqT (K : PySem.W.Frag) (H : Hp) (a : Addr) (xs : List V) : Prop :=
 Rd H a (.tup xs) ∨
  ∃ (o : Obj) (its : Array Value) (n : Nat), K.lookup a = some o ∧ o.cls = .type "tuple" ∧ o.data = .seq its n ∧ its.size ≤ sizeLine ∧ Vals xs its.toList
noncomputable def absV : Value → Option V
 | .none => some .non
 | .bool b => some (.bl b)
 | .int i _ => some (.int i)
 | .str x _ => some (.str x)
 | .bytes b _ => some (.byt b)
 | .float b _ => some (.flt b)
 | .ref a => some (.ref a)
 | .type n => some (.ty n)
 | _ => none
theorem RelV.abs {x : V} {u : Value} (r : RelV x u) : absV u = some x := by
 cases x with
 | non => cases r; rfl
 | bl _ => cases r; rfl
 | int _ => obtain ⟨t, rfl⟩ := r; rfl
 | str _ => obtain ⟨t, rfl⟩ := r; rfl
 | byt _ => obtain ⟨t, rfl⟩ := r; rfl
 | flt _ => obtain ⟨t, rfl⟩ := r; rfl
 | ref _ => cases r; rfl
 | ty _ => cases r; rfl
theorem RelV.inj {x y : V} {u : Value} (r : RelV x u) (q : RelV y u) : x = y := Option.some.inj (r.abs.symm.trans q.abs)
theorem Vals.inj : ∀ {xs ys : List V} {us : List Value}, Vals xs us → Vals ys us → xs = ys
 | _, _, _, .nil, .nil => rfl
 | _, _, _, .cons r t, .cons r' t' => by rw [r.inj r', Vals.inj t t']
section
variable {X : Cx} {pins : List (Addr × Obj)} {σ : St} {H : Hp} {s : Shared} {a : Addr} {xs ys : List V}
theorem SqL.of {K : PySem.W.Frag} (h : H a = some (.lst xs)) : SqL K H a xs := .inl (.inl h)
theorem SqT.of {K : PySem.W.Frag} (h : H a = some (.tup xs)) : SqT K H a xs := .inl (.inl h)
theorem Inv.list (I : Inv X pins σ H s) (h : SqL X.K H a xs) : ∃ its : List Value, Vals xs its ∧ PlainL s.heap a its.toArray ∧ xs.length ≤ sizeLine := by
 rcases h with h | ⟨o, its, n, hk, hc, hd, hs, hz, r⟩
 ·obtain ⟨z, its, n, r, e⟩ := h.ok I.hok
  exact ⟨its, r, ⟨_, n, e, rfl, rfl, rfl⟩, z⟩
 ·refine ⟨its.toList, r, ⟨o, n, I.kIn a o hk, hc, hd, by simpa using hs⟩, ?_⟩
  have e := r.length
  simp only [Array.length_toList] at e
  omega
theorem Inv.tuple (I : Inv X pins σ H s) (h : SqT X.K H a xs) : ∃ its : List Value, Vals xs its ∧ IsTup s.heap a its.toArray ∧ xs.length ≤ sizeLine := by
 rcases h with h | ⟨o, its, n, hk, hc, hs, hz, r⟩
 ·obtain ⟨z, its, r, p⟩ := h.ok I.hok
  exact ⟨its, r, p, z⟩
 ·refine ⟨its.toList, r, ⟨o, I.kIn a o hk, hc, n, by simpa using hs⟩, ?_⟩
  have e := r.length
  simp only [Array.length_toList] at e
  omega
theorem Inv.list_inj (I : Inv X pins σ H s) (h : SqL X.K H a xs) (h' : SqL X.K H a ys) : xs = ys := by
 obtain ⟨its, r, ⟨o, n, e, _, _, d⟩, _⟩ := I.list h
 obtain ⟨its', r', ⟨o', n', e', _, _, d'⟩, _⟩ := I.list h'
 rw [e] at e'; cases e'
 rw [d] at d'
 injection d' with d1 _
 have : its = its' := by simpa using congrArg Array.toList d1
 subst this
 exact r.inj r'
theorem Inv.tuple_inj (I : Inv X pins σ H s) (h : SqT X.K H a xs) (h' : SqT X.K H a ys) : xs = ys := by
 obtain ⟨its, r, ⟨o, e, _, n, d⟩, _⟩ := I.tuple h
 obtain ⟨its', r', ⟨o', e', _, n', d'⟩, _⟩ := I.tuple h'
 rw [e] at e'; cases e'
 rw [d] at d'
 injection d' with d1 _
 have : its = its' := by simpa using congrArg Array.toList d1
 subst this
 exact r.inj r'
end
noncomputable abbrev Cx.wish (X : Cx) (E : Value → Shared → Prop) : Cx := { X with xe := E }
noncomputable abbrev Cx.nox (X : Cx) : Cx := X.wish fun _ _ => False
theorem Cx.Ok.wish {X : Cx} (ok : X.Ok) (E : Value → Shared → Prop) : (X.wish E).Ok :=
 ⟨ok.mod, ok.kind, ok.glob, ok.blt, ok.above, ok.inj, ok.has, ok.cab, ok.hd, ok.frames, ok.stk, ok.exf, ok.bs, ok.bsz, ok.noex, ok.exfs, ok.funs, ok.frf⟩
theorem Cx.Ok.unwish {X : Cx} {E : Value → Shared → Prop} (ok : (X.wish E).Ok) : X.Ok :=
 ⟨ok.mod, ok.kind, ok.glob, ok.blt, ok.above, ok.inj, ok.has, ok.cab, ok.hd, ok.frames, ok.stk, ok.exf, ok.bs, ok.bsz, ok.noex, ok.exfs, ok.funs, ok.frf⟩
section
variable {X : Cx} {pins : List (Addr × Obj)} {σ : St} {H : Hp} {s : Shared} {E : Value → Shared → Prop}
theorem Inv.wish (I : Inv X pins σ H s) (E : Value → Shared → Prop) : Inv (X.wish E) pins σ H s := ⟨I.ok.wish E, I.os, I.bare, I.base, I.loc, I.cell, I.free, I.freeC, I.pin, I.hok, I.len⟩
theorem Inv.unwish (I : Inv (X.wish E) pins σ H s) : Inv X pins σ H s := ⟨I.ok.unwish, I.os, I.bare, I.base, I.loc, I.cell, I.free, I.freeC, I.pin, I.hok, I.len⟩
theorem SP.unwish {D : Ends} {f : Flow} {s' : Shared} (h : SP (X.wish E) pins D f s') : SP X pins D f s' := by
 cases f with
 | next => obtain ⟨σ', H', I, q⟩ := h; exact ⟨σ', H', I.unwish, q⟩
 | brk => obtain ⟨σ', H', I, q⟩ := h; exact ⟨σ', H', I.unwish, q⟩
 | cont => obtain ⟨σ', H', I, q⟩ := h; exact ⟨σ', H', I.unwish, q⟩
 | ret u => obtain ⟨v, σ', H', I, r, q⟩ := h; exact ⟨v, σ', H', I.unwish, r, q⟩
theorem PSs.nox {st : List Stmt} {t : TS} (h : PSs X.nox st t) : PSs X st t := fun pins s σ H D I hw =>
 wpAny_mono (h pins s σ H D (I.wish _) hw) (fun _ _ q => q.unwish) fun _ _ z => False.elim z
end
section
variable {X : Cx} {st : Stmt} {rest : List Stmt} {t u : TS} {e : Expr} {te : TE} {pos : Pos}
noncomputable def tNext : TS := fun D σ H => D.nx σ H
noncomputable def tSeq (t u : TS) : TS := fun D σ H => t { D with nx := u D } σ H
theorem pss_nil : PSs X [] tNext := fun _ _ σ H _ I h => wpAny_execs_nil ⟨σ, H, I, h⟩
theorem pss_cons (h1 : PS X st t) (h2 : PSs X rest u) : PSs X (st :: rest) (tSeq t u) := by
 intro pins s σ H D I h
 refine wpAny_execs_cons (thn (h1 pins s σ H { D with nx := u D } I h) fun f s1 q => ?_)
 cases f with
 | next =>
  obtain ⟨σ', H', I', q⟩ := q
  exact h2 pins s1 σ' H' D I' q
 | ret v => exact q
 | brk => exact q
 | cont => exact q
theorem pss_one (h1 : PS X st t) : PSs X [st] t := by
 intro pins s σ H D I h
 refine wpAny_execs_cons (thn (h1 pins s σ H D I h) fun f s1 q => ?_)
 cases f with
 | next => exact wpAny_execs_nil q
 | ret v => exact q
 | brk => exact q
 | cont => exact q
noncomputable def tBreak : TS := fun D σ H => D.bk σ H
theorem ps_break : PS X (.Break pos) tBreak := fun _ _ σ H _ I h => wpAny_Break ⟨σ, H, I, h⟩
theorem Inv.quiet {pins : List (Addr × Obj)} {σ : St} {H : Hp} {s : Shared} (I : Inv X pins σ H s) : interactive X.env = false := by simp [interactive, I.ok.kind]
noncomputable def tDrop (te : TE) : TS := fun D σ H => te σ H fun _ H1 => D.nx σ H1
theorem ps_expr (he : PE X e te) (hs : swapsWith e none pos.line X.env = pure false := by rfl) : PS X (.Expr e pos) (tDrop te) := by
 intro pins s σ H D I h
 exact wpAny_Expr_any (thn (he pins s σ H _ I h) fun v s1 ⟨x, H1, I1, r1, q1⟩ => ⟨σ, H1, I1, q1⟩) I.quiet hs
noncomputable def tRet (te : TE) : TS := fun D σ H => te σ H D.rt
theorem ps_ret (he : PE X e te) : PS X (.Return (some e) pos) (tRet te) := by
 intro pins s σ H D I h
 exact wpAny_Return_some (thn (he pins s σ H _ I h) fun v s1 ⟨x, H1, I1, r1, q1⟩ => ⟨x, σ, H1, I1, r1, q1⟩)
noncomputable def tRetN : TS := fun D _ H => D.rt .non H
theorem ps_retN : PS X (.Return none pos) tRetN := fun _ _ σ H _ I h => wpAny_Return_none ⟨.non, σ, H, I, rfl, h⟩
noncomputable def tIfS (c : TT) (t u : TS) : TS := fun D σ H => c σ H fun b H1 => if b = true then t D σ H1 else u D σ H1
theorem ps_if {c : Expr} {a b : List Stmt} {tc : TT} (hc : PT X c tc) (ha : PSs X a t) (hb : PSs X b u) : PS X (.If c a b pos) (tIfS tc t u) := by
 intro pins s σ H D I h
 refine wpAny_If (thn (hc pins s σ H _ I h) fun d s1 ⟨H1, I1, q1⟩ => ?_)
 cases d with
 | true => exact ha pins s1 σ H1 D I1 q1
 | false => exact hb pins s1 σ H1 D I1 q1
noncomputable def tNever : TS := fun _ _ _ => False
theorem ps_never : PS X st tNever := fun _ _ _ _ _ _ h => h.elim
end
noncomputable abbrev TG := V → St → Hp → (St → Hp → Prop) → Prop
noncomputable abbrev TGs := List V → St → Hp → (St → Hp → Prop) → Prop
noncomputable def PG (X : Cx) (target : Expr) (t : TG) : Prop :=
 ∀ (pins : List (Addr × Obj)) (s : Shared) (σ : St) (H : Hp) (v : V) (u : Value) (Q : St → Hp → Prop), Inv X pins σ H s → RelV v u → t v σ H Q →
  wpAny (model X.prog X.w) X.A (assign target X.env u) (fun _ s' => ∃ σ' H', Inv X pins σ' H' s' ∧ Q σ' H') X.xe s
noncomputable def PGs (X : Cx) (ts : List Expr) (t : TGs) : Prop :=
 ∀ (pins : List (Addr × Obj)) (s : Shared) (σ : St) (H : Hp) (vs : List V) (us : List Value) (Q : St → Hp → Prop), Inv X pins σ H s → Vals vs us → t vs σ H Q →
  wpAny (model X.prog X.w) X.A (assignInOrder ((assignEach ts X.env).map (·.2)) us) (fun _ s' => ∃ σ' H', Inv X pins σ' H' s' ∧ Q σ' H') X.xe s
noncomputable abbrev TSet := V → V → V → Hp → (Hp → Prop) → Prop
noncomputable def PSet (X : Cx) (t : TSet) : Prop :=
 ∀ (pins : List (Addr × Obj)) (s : Shared) (σ : St) (H : Hp) (o i v : V) (ov iv u : Value) (Q : Hp → Prop), Inv X pins σ H s → RelV o ov → RelV i iv → RelV v u → t o i v H Q →
  wpAny (model X.prog X.w) X.A (setItem ov iv u) (fun _ s' => ∃ H', Inv X pins σ H' s' ∧ Q H') X.xe s
noncomputable abbrev TIp := V → V → Hp → VK → Prop
section
variable {X : Cx} {pos : Pos}
noncomputable def gName (i : Nat) : TG := fun v σ H Q => Q (σ.set i (some v)) H
theorem pg_name {i : Nat} {x : Str} (hN : X.N.Nodup) (hi : X.N[i]? = some x) (hx : Loc X.env.scope x) (hf : X.fn x = true ∨ X.env.scope.names.lookup x = some .local := by first | exact .inl rfl | exact .inr rfl | assumption) : PG X (.Name x pos) (gName i) := by
 intro pins s σ H v u Q I r h
 exact wpAny_assign_Name (store_ok I hN hi hx r (fun s' I' => ⟨_, H, I', h⟩) hf)
noncomputable def gNil : TGs := fun vs σ H Q => vs = [] ∧ Q σ H
noncomputable def gCons (t : TG) (u : TGs) : TGs := fun vs σ H Q => ∃ v r, vs = v :: r ∧ t v σ H fun σ' H' => u r σ' H' Q
theorem pgs_nil : PGs X [] gNil := by
 intro pins s σ H vs us Q I r h
 obtain ⟨e, h⟩ := h
 subst e
 cases r
 exact assignInOrder_nil ⟨σ, H, I, h⟩
theorem pgs_cons {e : Expr} {es : List Expr} {t : TG} {u : TGs} (h1 : PG X e t) (h2 : PGs X es u)
  (hs : (assignEach (e :: es) X.env).map (·.2) = assign e X.env :: (assignEach es X.env).map (·.2) := by rfl) : PGs X (e :: es) (gCons t u) := by
 intro pins s σ H vs us Q I r h
 obtain ⟨v, vr, e1, h⟩ := h
 subst e1
 cases r with
 | cons r rr =>
  rw [hs]
  refine assignInOrder_cons (thn (h1 pins s σ H _ _ _ I r h) fun _ s1 ⟨σ1, H1, I1, q1⟩ => ?_)
  exact h2 pins s1 σ1 H1 _ _ Q I1 rr q1
noncomputable def gTup (K : PySem.W.Frag) (n : Nat) (t : TGs) : TG := fun v σ H Q => ∃ a xs, v = .ref a ∧ SqT K H a xs ∧ xs.length = n ∧ t xs σ H Q
theorem pg_tup {es : List Expr} {k : Nat} {t : TGs} {n : Nat} (hc : X.calm = true) (h : PGs X es t)
  (hn : (assignEach es X.env).length = n := by rfl) (hst : (assignEach es X.env).findIdx? (·.1) = none := by rfl) : PG X (.Tuple es k pos) (gTup X.K n t) := by
 intro pins s σ H v u Q I r hw
 obtain ⟨a, xs, e1, hq, hl, hw⟩ := hw
 subst e1
 cases r
 obtain ⟨its, rv, ht, hz⟩ := I.tuple hq
 refine assign_Tuple_tuple (I.ok.hd hc) ht (by simp [hn, ← hl, rv.length]) hst fun h' hx => ?_
 have I1 : Inv X pins σ H { s with heap := h' } := I.kept (t' := s.toks) fun b o e => hx b o (Nat.ne_of_lt (Heap.lt_size e)) e
 exact h pins _ σ H xs _ Q I1 (by simpa using rv) hw
noncomputable def gSub (to ti : TE) (t : TSet) : TG := fun v σ H Q => to σ H fun o H1 => ti σ H1 fun i H2 => t o i v H2 fun H3 => Q σ H3
theorem pg_sub {o i : Expr} {to ti : TE} {t : TSet} (ho : PE X o to) (hi : PE X i ti) (hs : PSet X t)
  (ha : ∀ v, assign (.Subscript o i pos) X.env v = (do
   let ov ← holding [v] (eval o X.env)
   let iv ← holding [v, ov] (eval i X.env)
   standAt pos
   holding [v, ov, iv] (setItem ov iv v)
   release [v, ov, iv] []) := by intro _; rfl) : PG X (.Subscript o i pos) (gSub to ti t) := by
 intro pins s σ H v u Q I r h
 rw [ha]
 refine wpAny_bind (wpAny_holding (thn (ho pins s σ H _ I h) fun ov s1 ⟨x, H1, I1, r1, q1⟩ => ?_))
 refine wpAny_bind (wpAny_holding (thn (hi pins s1 σ H1 _ I1 q1) fun iv s2 ⟨y, H2, I2, r2, q2⟩ => ?_))
 refine wpAny_bind (wpAny_standAt (wpAny_bind (wpAny_holding (thn (hs pins s2 σ H2 x y v ov iv u _ I2 r1 r2 r q2) fun _ s3 ⟨H3, I3, q3⟩ => ?_))))
 exact wpAny_release ⟨σ, H3, I3, q3⟩
noncomputable def tAsg (te : TE) (g : TG) : TS := fun D σ H => te σ H fun x H1 => g x σ H1 D.nx
theorem ps_asg {tg e : Expr} {te : TE} {g : TG} (he : PE X e te) (hg : PG X tg g) (hs : swapsWithSole [tg] e pos.line X.env = pure false := by rfl) (hw : swappedStores [tg] e X.env = pure none := by rfl)
  (h1 : (assignEach [tg] X.env).map (·.2) = [assign tg X.env] := by rfl) : PS X (.Assign [tg] e pos) (tAsg te g) := by
 intro pins s σ H D I h
 refine wpAny_Assign_stores (thn (he pins s σ H _ I h) fun v s1 ⟨x, H1, I1, r1, q1⟩ => ?_) hs hw
 rw [h1]
 exact thn (hg pins s1 σ H1 x v _ I1 r1 q1) fun _ s2 q => q
theorem ps_set {i : Nat} {x : Str} {e : Expr} {te : TE} {pos' : Pos} (hN : X.N.Nodup) (hi : X.N[i]? = some x) (hx : Loc X.env.scope x) (he : PE X e te) (hs : swapsWith e (some (.Name x pos')) pos.line X.env = pure false := by rfl) (hf : X.fn x = true ∨ X.env.scope.names.lookup x = some .local := by first | exact .inl rfl | exact .inr rfl | assumption) :
  PS X (.Assign [.Name x pos'] e pos) (tAsg te (gName i)) := by
 intro pins s σ H D I h
 refine wpAny_Assign_Name (thn (he pins s σ H _ I h) fun v s1 ⟨y, H1, I1, r1, q1⟩ => ?_) hs
 exact store_ok I1 hN hi hx r1 (fun s2 I2 => ⟨_, H1, I2, q1⟩) hf
end
section
variable {X : Cx} {pos : Pos}
end
structure It where
 go : Nat → Hp → Prop
 yld : Nat → Hp → V → Hp → Prop
 stop : Nat → Hp → Prop
noncomputable def FpOk (X : Cx) (pins : List (Addr × Obj)) (H : Hp) (b : Addr) : Prop :=
 H b = none ∧ b ≠ X.env.locals ∧ b ∉ X.fs ∧ (b ∈ X.ex ∨ X.s₀.heap.objs.size ≤ b) ∧ (∀ x c, X.env.cells.lookup x = some c → c ≠ b) ∧ ∀ p ∈ X.pn ++ pins, p.1 ≠ b
theorem Inv.fpOk {X : Cx} {pins : List (Addr × Obj)} {σ : St} {H H' : Hp} {s : Shared} {b : Addr} (I : Inv X pins σ H s) (hb : s.heap.objs.size ≤ b) (hn : H' b = none) : FpOk X pins H' b := by
 refine ⟨hn, Nat.ne_of_gt (Nat.lt_of_lt_of_le I.lt hb), I.nofs hb, .inr (Nat.le_trans I.sz hb), fun x c e z => ?_, fun p hp z => ?_⟩
 ·obtain ⟨v, q⟩ := I.cell x c e
  exact absurd (Nat.lt_of_lt_of_le q.lt (by rw [z]; exact hb)) (Nat.lt_irrefl _)
 ·exact absurd (Nat.lt_of_lt_of_le (Heap.lt_size (I.pin p hp).1) (by rw [z]; exact hb)) (Nat.lt_irrefl _)
structure Turn (P : Program) (w : World) (K : PySem.W.Frag) (tg : Expr) (J : It) (fp : List Addr) (it : Addr) (tn : Nat → Heap → Prop) : Prop where
 mem : it ∈ fp
 obj : ∀ i h, tn i h → ∀ b ∈ fp, ∃ o, h.get? b = some o ∧ ∀ v, o.data ≠ .cell v
 keep : ∀ i h h', tn i h → (∀ b ∈ fp, ∀ o, h.get? b = some o → h'.get? b = some o) → tn i h'
 item : ∀ (X : Cx), X.prog = P → X.w = w → X.K = K → X.calm = true → ∀ (i : Nat) (pins : List (Addr × Obj)) (s : Shared) (σ : St) (H : Hp) (E : Value → Shared → Prop), Inv X pins σ H s → (∀ b ∈ fp, FpOk X pins H b) → tn i s.heap → J.go i H →
  wpAny (model P w) X.A (pyNext (.ref it)) (fun r s1 => ∃ u, r = some u ∧
   wpAny (model P w) X.A (letOwnedTupleGo tg (.ref it) u) (fun _ s2 => ∃ x H', Inv X pins σ H' s2 ∧ RelV x u ∧ J.yld i H x H' ∧ tn (i + 1) s2.heap ∧ ∀ b ∈ fp, H' b = none) E s1) E s
 done : ∀ (X : Cx), X.prog = P → X.w = w → X.K = K → X.calm = true → ∀ (i : Nat) (pins : List (Addr × Obj)) (s : Shared) (σ : St) (H : Hp) (E : Value → Shared → Prop), Inv X pins σ H s → (∀ b ∈ fp, FpOk X pins H b) → tn i s.heap → J.stop i H →
  wpAny (model P w) X.A (pyNext (.ref it)) (fun r s1 => r = none ∧ Inv X pins σ H s1) E s
 self : ∀ (A : Around) (i : Nat) (s : Shared) (Q : Value → Shared → Prop) (E : Value → Shared → Prop), tn i s.heap → Q (.ref it) s → wpAny (model P w) A (pyIter (.ref it)) Q E s
noncomputable abbrev TI := St → Hp → (It → Hp → Prop) → Prop
noncomputable def PIE (X : Cx) (pins : List (Addr × Obj)) (σ : St) (tg : Expr) (R : It → Hp → Prop) (itv : Value) (s2 : Shared) : Prop :=
 ∃ (it : Addr) (fp : List Addr) (tn : Nat → Heap → Prop) (J : It) (H' : Hp), itv = .ref it ∧ Inv X pins σ H' s2 ∧ Turn X.prog X.w X.K tg J fp it tn ∧ tn 0 s2.heap ∧ (∀ b ∈ fp, FpOk X pins H' b) ∧ R J H'
noncomputable def PI (X : Cx) (tg iter : Expr) (wi : TI) : Prop :=
 ∀ (pins : List (Addr × Obj)) (s : Shared) (σ : St) (H : Hp) (R : It → Hp → Prop), Inv X pins σ H s → wi σ H R →
  wpAny (model X.prog X.w) X.A (eval iter X.env) (fun v s1 => wpAny (model X.prog X.w) X.A (pyIter v) (PIE X pins σ tg R) X.xe s1) X.xe s
theorem go_of {M : Model} {A : Around} {E : Value → Shared → Prop} {s : Shared} {tg : Expr} {it : Addr} {u : Value} {o : Obj} {n : String} {vs : Array Value} {Q : Unit → Shared → Prop} (ho : s.heap.get? it = some o) (hc : o.cls = .type n) (hd : o.data = .fields vs)
    (hn : ["enumerate", "zip", "dict_itemiterator", "dict_reverseitemiterator", "odict_iterator", "itertools.zip_longest", "itertools.pairwise"].contains n = false) (hQ : Q () s) : wpAny M A (letOwnedTupleGo tg (.ref it) u) Q E s := by
  unfold letOwnedTupleGo
  cases tg <;> first
    | exact wpAny_pure hQ
    | (cases u <;> first
        | exact wpAny_pure hQ
        | (refine wpAny_bind (wpAny_load ho ?_)
           rw [hc, hd]
           show wpAny M A (if (["enumerate", "zip", "dict_itemiterator", "dict_reverseitemiterator", "odict_iterator", "itertools.zip_longest", "itertools.pairwise"].contains n && vs[0]? == some (rawInt _)) = true then _ else _) Q E s
           rw [if_neg (by intro h; rw [hn, Bool.false_and] at h; cases h)]
           exact wpAny_pure hQ))
noncomputable def Itl (K : PySem.W.Frag) (a : Addr) : It :=
 ⟨fun i H => ∃ xs x, SqL K H a xs ∧ xs[i]? = some x, fun i H x H' => H' = H ∧ ∀ xs, SqL K H a xs → xs[i]? = some x, fun i H => ∃ xs, SqL K H a xs ∧ xs.length ≤ i⟩
noncomputable def Itt (K : PySem.W.Frag) (a : Addr) : It :=
 ⟨fun i H => ∃ xs x, SqT K H a xs ∧ xs[i]? = some x, fun i H x H' => H' = H ∧ ∀ xs, SqT K H a xs → xs[i]? = some x, fun i H => ∃ xs, SqT K H a xs ∧ xs.length ≤ i⟩
noncomputable def Itr (lo : Int) (n : Nat) : It := ⟨fun i _ => i < n, fun i H x H' => H' = H ∧ x = .int (lo + i), fun i _ => n ≤ i⟩
theorem turn_list {P : Program} {w : World} {K : PySem.W.Frag} {tg : Expr} (a it : Addr) : Turn P w K tg (Itl K a) [it] it (fun i h => h.IsListIter it a i) where
 mem := by simp
 obj := fun i h st b hb => by
  have e : b = it := by simpa using hb
  subst e
  obtain ⟨o, e, c, d⟩ := st
  exact ⟨o, e, fun v z => by rw [d] at z; cases z⟩
 keep := fun i h h' st k => st.at fun o e => k it (by simp) o e
 item := by
  intro X hP hw hK hc i pins s σ H E I hf st hg
  subst hP hw hK
  obtain ⟨xs, x, hq, hx⟩ := hg
  obtain ⟨its, rv, p, hz⟩ := I.list hq
  obtain ⟨u, hu, ru⟩ := rv.get hx
  obtain ⟨f0, f1, f2, f3, f4, f5⟩ := hf it (by simp)
  refine wpAny_pyNext_list_item st p.isList (x := u) (by simpa using hu) fun h' st' sb => ?_
  have I1 : Inv X pins σ H { s with heap := h' } := I.turned (t' := s.toks) (fun b o hb e => (sb.2 b hb).trans e) f0 f1 f3 f4 f5
  obtain ⟨o, e, c, d⟩ := id st'
  exact ⟨u, rfl, go_of (s := { s with heap := h' }) e c d (by decide) ⟨x, H, I1, ru, ⟨rfl, fun ys hy => by rw [I.list_inj hy hq]; exact hx⟩, st', fun b hb => (hf b hb).1⟩⟩
 done := by
  intro X hP hw hK hc i pins s σ H E I hf st hg
  subst hP hw hK
  obtain ⟨xs, hq, hx⟩ := hg
  obtain ⟨its, rv, p, hz⟩ := I.list hq
  obtain ⟨f0, f1, f2, f3, f4, f5⟩ := hf it (by simp)
  have hl := rv.length
  exact wpAny_pyNext_list_end (I.ok.hd hc) st p.isList (by simp; omega) fun h' eb => ⟨rfl, I.turned (t' := s.toks) (fun b o hb e => eb b o hb e) f0 f1 f3 f4 f5⟩
 self := fun _ _ _ _ _ st h => wpAny_pyIter_listiter st h
theorem turn_tuple {P : Program} {w : World} {K : PySem.W.Frag} {tg : Expr} (a it : Addr) : Turn P w K tg (Itt K a) [it] it (fun i h => h.IsTupleIter it a i) where
 mem := by simp
 obj := fun i h st b hb => by
  have e : b = it := by simpa using hb
  subst e
  obtain ⟨o, e, c, d⟩ := st
  exact ⟨o, e, fun v z => by rw [d] at z; cases z⟩
 keep := fun i h h' st k => st.at fun o e => k it (by simp) o e
 item := by
  intro X hP hw hK hc i pins s σ H E I hf st hg
  subst hP hw hK
  obtain ⟨xs, x, hq, hx⟩ := hg
  obtain ⟨its, rv, p, hz⟩ := I.tuple hq
  obtain ⟨u, hu, ru⟩ := rv.get hx
  obtain ⟨f0, f1, f2, f3, f4, f5⟩ := hf it (by simp)
  refine wpAny_pyNext_tuple_item st (show s.heap.IsTuple a its.toArray from p) (x := u) (by simpa using hu) fun h' st' sb => ?_
  have I1 : Inv X pins σ H { s with heap := h' } := I.turned (t' := s.toks) (fun b o hb e => (sb.2 b hb).trans e) f0 f1 f3 f4 f5
  obtain ⟨o, e, c, d⟩ := id st'
  exact ⟨u, rfl, go_of (s := { s with heap := h' }) e c d (by decide) ⟨x, H, I1, ru, ⟨rfl, fun ys hy => by rw [I.tuple_inj hy hq]; exact hx⟩, st', fun b hb => (hf b hb).1⟩⟩
 done := by
  intro X hP hw hK hc i pins s σ H E I hf st hg
  subst hP hw hK
  obtain ⟨xs, hq, hx⟩ := hg
  obtain ⟨its, rv, p, hz⟩ := I.tuple hq
  obtain ⟨f0, f1, f2, f3, f4, f5⟩ := hf it (by simp)
  have hl := rv.length
  exact wpAny_pyNext_tuple_end (I.ok.hd hc) st (show s.heap.IsTuple a its.toArray from p) (by simp; omega) fun h' eb => ⟨rfl, I.turned (t' := s.toks) (fun b o hb e => eb b o hb e) f0 f1 f3 f4 f5⟩
 self := fun _ _ _ _ _ st h => wpAny_pyIter_tupleiter st h
theorem turn_range {P : Program} {w : World} {K : PySem.W.Frag} {tg : Expr} (it : Addr) (lo : Int) (n : Nat) : Turn P w K tg (Itr lo n) [it] it (fun i h => IsRangeIter h it (lo + (i : Nat) * 1) ((n : Int) - (i : Nat)) 1) where
 mem := by simp
 obj := fun i h st b hb => by
  have e : b = it := by simpa using hb
  subst e
  exact ⟨_, st, fun v z => by
   have z' : Data.fields _ = Data.cell v := z
   cases z'⟩
 keep := fun i h h' st k => k it (by simp) _ st
 item := by
  intro X hP hw hK hc i pins s σ H E I hf st hg
  subst hP hw hK
  obtain ⟨f0, f1, f2, f3, f4, f5⟩ := hf it (by simp)
  have W := Walks.range (prog := X.prog) (w := X.w) (I.ok.hd hc) it lo 1 n
  refine W.item i s _ _ hg st fun v h' tk hv st' kk => ?_
  obtain ⟨t, rfl⟩ := hv
  have I1 : Inv X pins σ H { s with heap := h', toks := tk } := I.turned (fun b o hb e => kk b o (by simpa using hb) e) f0 f1 f3 f4 f5
  refine ⟨_, rfl, go_of (s := { s with heap := h', toks := tk }) (n := "range_iterator") st' rfl rfl (by decide) ⟨.int (lo + i), H, I1, ⟨t, ?_⟩, ⟨rfl, rfl⟩, st', fun b hb => (hf b hb).1⟩⟩
  rw [Int.mul_one]
 done := by
  intro X hP hw hK hc i pins s σ H E I hf st hg
  subst hP hw hK
  obtain ⟨f0, f1, f2, f3, f4, f5⟩ := hf it (by simp)
  exact wpAny_pyNext_range_end (I.ok.hd hc) st (by have : n ≤ i := hg; omega) fun h' eb => ⟨rfl, I.turned (t' := s.toks) (fun b o hb e => eb b o hb e) f0 f1 f3 f4 f5⟩
 self := fun _ _ _ _ _ st h => wpAny_pyIter_rangeiter st h
end L2
namespace L2
open PySem PySem.Spec PyProof.Rows
section
variable {X : Cx} {tg : Expr}
noncomputable def iList (K : PySem.W.Frag) (tl : TE) : TI := fun σ H R => tl σ H fun x H1 => ∃ a, x = .ref a ∧ (∃ xs, SqL K H1 a xs) ∧ R (Itl K a) H1
noncomputable def iTup (K : PySem.W.Frag) (tl : TE) : TI := fun σ H R => tl σ H fun x H1 => ∃ a, x = .ref a ∧ (∃ xs, SqT K H1 a xs) ∧ R (Itt K a) H1
theorem pi_list {l : Expr} {tl : TE} (hl : PE X l tl) : PI X tg l (iList X.K tl) := by
 intro pins s σ H R I h
 refine thn (hl pins s σ H _ I h) fun v s1 ⟨x, H1, I1, r1, q1⟩ => ?_
 obtain ⟨a, e, ⟨xs, hq⟩, q⟩ := q1
 subst e
 cases r1
 obtain ⟨its, rv, p, hz⟩ := I1.list hq
 refine wpAny_pyIter_list p.isList ?_
 refine ⟨s1.heap.objs.size, [s1.heap.objs.size], _, _, H1, rfl, I1.kept (t' := s1.toks) fun b o e => Heap.get?_push_of_some _ e, turn_list a _, ⟨_, Heap.get?_push_size _ rfl, rfl, rfl⟩, fun b hb => ?_, q⟩
 have e : b = s1.heap.objs.size := by simpa using hb
 subst e
 exact I1.fpOk (Nat.le_refl _) (I1.hok.fresh (Nat.le_refl _))
theorem pi_tup {l : Expr} {tl : TE} (hl : PE X l tl) : PI X tg l (iTup X.K tl) := by
 intro pins s σ H R I h
 refine thn (hl pins s σ H _ I h) fun v s1 ⟨x, H1, I1, r1, q1⟩ => ?_
 obtain ⟨a, e, ⟨xs, hq⟩, q⟩ := q1
 subst e
 cases r1
 obtain ⟨its, rv, p, hz⟩ := I1.tuple hq
 refine wpAny_pyIter_tuple (show s1.heap.IsTuple a its.toArray from p) ?_
 refine ⟨s1.heap.objs.size, [s1.heap.objs.size], _, _, H1, rfl, I1.kept (t' := s1.toks) fun b o e => Heap.get?_push_of_some _ e, turn_tuple a _, ⟨_, Heap.get?_push_size _ rfl, rfl, rfl⟩, fun b hb => ?_, q⟩
 have e : b = s1.heap.objs.size := by simpa using hb
 subst e
 exact I1.fpOk (Nat.le_refl _) (I1.hok.fresh (Nat.le_refl _))
theorem range_it {pins : List (Addr × Obj)} {σ : St} {H : Hp} {s : Shared} {R : It → Hp → Prop} {E : Value → Shared → Prop} {lo hi : Int} {t u v : Tok} {tk : Nat} (I : Inv X pins σ H s) (h1 : -(2 ^ 62) ≤ lo) (h2 : lo < 2 ^ 62) (h3 : -(2 ^ 62) ≤ hi) (h4 : hi < 2 ^ 62)
  (q : R (Itr lo (hi - lo).toNat) H) : wpAny (model X.prog X.w) X.A (pyIter (.ref s.heap.objs.size)) (PIE X pins σ tg R) E { s with heap := s.heap.push { cls := .type "range", data := .fields #[.int lo t, .int hi u, .int 1 v] }, toks := tk } := by
 refine wpAny_pyIter_range (IsRange.new ..) (small_one h1 h2 h3 h4) ?_
 have I1 : Inv X pins σ H { s with heap := s.heap.push { cls := .type "range", data := .fields #[.int lo t, .int hi u, .int 1 v] }, toks := tk } := I.kept fun b o e => Heap.get?_push_of_some _ e
 refine ⟨(s.heap.push { cls := .type "range", data := .fields #[.int lo t, .int hi u, .int 1 v] }).objs.size, [(s.heap.push { cls := .type "range", data := .fields #[.int lo t, .int hi u, .int 1 v] }).objs.size], _, _, H, rfl,
  I1.kept (t' := tk) fun b o e => Heap.get?_push_of_some _ e, turn_range _ lo (hi - lo).toNat, ?_, fun b hb => ?_, q⟩
 ·have e1 : lo + ((0 : Nat) : Int) * 1 = lo := by simp
  have e2 : (((hi - lo).toNat : Nat) : Int) - ((0 : Nat) : Int) = Builtin.Range.rangeSize lo hi 1 := by rw [rangeSize_one]; split <;> omega
  show IsRangeIter _ _ (lo + ((0 : Nat) : Int) * 1) ((((hi - lo).toNat : Nat) : Int) - ((0 : Nat) : Int)) 1
  rw [e1, e2]
  exact Heap.get?_push_size _ rfl
 ·have e : b = (s.heap.push { cls := .type "range", data := .fields #[.int lo t, .int hi u, .int 1 v] }).objs.size := by simpa using hb
  subst e
  exact I1.fpOk (Nat.le_refl _) (I1.hok.fresh (Nat.le_refl _))
noncomputable def iRng1 (ta : TA) : TI := fun σ H R => ta σ H fun vs H1 => ∃ j : Int, vs = [.int j] ∧ -(2 ^ 62) ≤ j ∧ j < 2 ^ 62 ∧ R (Itr 0 j.toNat) H1
theorem pi_range1 {a : Expr} {ta : TA} {p pos : Pos} (hg : Gl X "range") (hm : X.mg "range" = none) (ha : PA X [a] ta) (hs : starEach [a] X.env = [(false, eval a X.env)] := by rfl) : PI X tg (.Call (.Name "range" p) [a] [] pos) (iRng1 ta) := by
 intro pins s σ H R I h
 refine Call_ (ld_blt I hg hm boot_range (PyProof.Rows.callWith_type1 (thn (ha pos pins s σ H _ I h) fun us s1 ⟨vs, H1, I1, r1, q1⟩ => ?_) hs rfl))
 obtain ⟨j, e, q1, q2, q⟩ := q1
 subst e
 cases r1 with
 | cons r rr =>
  cases rr
  obtain ⟨t, rfl⟩ := r
  exact call_range_1 (range_it I1 (by omega) (by omega) q1 q2 (by simpa using q))
noncomputable def tFor (wi : TI) (g : TG) (tb : TS) : TS := fun D σ H => wi σ H fun J H1 => ∃ W : Nat → Nat → St → Hp → Prop, (∃ m, W 0 m σ H1) ∧ ∀ i m σ H, W i m σ H →
 (J.stop i H ∧ D.nx σ H) ∨ (J.go i H ∧ ∃ N : St → Hp → Prop, (∀ σ' H', N σ' H' → ∃ m', m' < m ∧ W (i + 1) m' σ' H') ∧ ∀ x H', J.yld i H x H' → g x σ H' fun σ2 H2 => tb { D with nx := N, ct := N, bk := D.nx } σ2 H2)
noncomputable def pinsAt (fp : List Addr) (h : Heap) : List (Addr × Obj) := fp.filterMap fun b => (h.get? b).map fun o => (b, o)
theorem mem_pinsAt {fp : List Addr} {h : Heap} {b : Addr} {o : Obj} (hb : b ∈ fp) (e : h.get? b = some o) : (b, o) ∈ pinsAt fp h := List.mem_filterMap.mpr ⟨b, hb, by rw [e]; rfl⟩
theorem of_pinsAt {fp : List Addr} {h : Heap} {p : Addr × Obj} (hp : p ∈ pinsAt fp h) : p.1 ∈ fp ∧ h.get? p.1 = some p.2 := by
 obtain ⟨b, hb, e⟩ := List.mem_filterMap.mp hp
 cases q : h.get? b with
 | none => rw [q] at e; cases e
 | some o =>
  rw [q] at e
  have e' : (b, o) = p := Option.some.inj e
  subst e'
  exact ⟨hb, q⟩
theorem Inv.pinned {pins : List (Addr × Obj)} {σ : St} {H : Hp} {s : Shared} {fp : List Addr} (I : Inv X pins σ H s) (hf : ∀ b ∈ fp, FpOk X pins H b) (ho : ∀ b ∈ fp, ∃ o, s.heap.get? b = some o ∧ ∀ v, o.data ≠ .cell v) : Inv X (pins ++ pinsAt fp s.heap) σ H s :=
 I.pins_of fun p hp => (List.mem_append.mp hp).elim (fun z => I.pin p (List.mem_append_right _ z)) fun z => by
  obtain ⟨hb, e⟩ := of_pinsAt z
  obtain ⟨f0, f1, f2, _⟩ := hf p.1 hb
  obtain ⟨o, e', d⟩ := ho p.1 hb
  rw [e] at e'; cases e'
  exact ⟨e, f0, f1, f2, d⟩
theorem Inv.unpinned {pins pl : List (Addr × Obj)} {σ : St} {H : Hp} {s : Shared} (I : Inv X (pins ++ pl) σ H s) : Inv X pins σ H s := I.pins_of fun p hp => I.pin p (List.mem_append_right _ (List.mem_append_left _ hp))
theorem ps_for {iter : Expr} {body : List Stmt} {wi : TI} {g : TG} {tb : TS} {pos : Pos} (hp : PassesOwn (model X.prog X.w) X.A X.env X.xe) (hc : X.calm = true) (hi : PI X tg iter wi) (hg : PG X tg g) (hb : PSs X body tb)
  (hs : ∀ x, foldedSetIterable iter X.env x = pure x := by intro _; rfl) : PS X (.For tg iter body [] pos) (tFor wi g tb) := by
 intro pins s σ H D I h
 refine wpAny_For (thn (hi pins s σ H _ I h) fun v s1 h1 => thn h1 fun itv s2 h2 => ?_) hs
 obtain ⟨it, fp, tn, J, H2, e, I2, T, st2, f2, W, ⟨m0, w0⟩, turn⟩ := h2
 subst e
 -- what stays true of the iterator's objects through the loop
 have stat : ∀ {H' : Hp}, (∀ b ∈ fp, H' b = none) → ∀ b ∈ fp, FpOk X pins H' b := fun hn b hb => ⟨hn b hb, (f2 b hb).2⟩
 refine codeAny_forLoop_any (fun n s' => ∃ i σ' H', Inv X pins σ' H' s' ∧ tn i s'.heap ∧ (∀ b ∈ fp, H' b = none) ∧ W i n σ' H') ?_ m0 ⟨0, σ, H2, I2, st2, fun b hb => (f2 b hb).1, w0⟩
 rintro n s3 ⟨i, σ3, H3, I3, st3, fr3, w3⟩
 rcases turn i n σ3 H3 w3 with ⟨stop, qn⟩ | ⟨go, N, hN, step⟩
 ·refine wpAny_passesOwn hp (thn (T.done X rfl rfl rfl hc i pins s3 σ3 H3 X.xe I3 (stat fr3) st3 stop) fun r s4 ⟨hr, I4⟩ => ?_)
  subst hr
  exact wpAny_execs_nil ⟨σ3, H3, I4, qn⟩
 ·refine wpAny_passesOwn hp (thn (T.item X rfl rfl rfl hc i pins s3 σ3 H3 X.xe I3 (stat fr3) st3 go) fun r s4 ⟨u, hr, h4⟩ => ?_)
  subst hr
  refine wpAny_passesOwn hp (thn h4 fun _ s5 ⟨x, H5, I5, r5, y5, st5, fr5⟩ => ?_)
  have I5' := I5.pinned (stat fr5) (T.obj _ _ st5)
  refine wpAny_passesOwn hp (thn (hg _ s5 σ3 H5 x u _ I5' r5 (step x H5 y5)) fun _ s6 ⟨σ6, H6, I6, q6⟩ => ?_)
  refine wpAny_passesOwn hp (thn (hb _ s6 σ6 H6 _ I6 q6) fun f s7 q7 => ?_)
  have again : ∀ {σ7 : St} {H7 : Hp}, Inv X (pins ++ pinsAt fp s5.heap) σ7 H7 s7 → N σ7 H7 → ∃ m, m < n ∧ ∃ i σ' H', Inv X pins σ' H' s7 ∧ tn i s7.heap ∧ (∀ b ∈ fp, H' b = none) ∧ W i m σ' H' := fun {σ7 H7} I7 n7 => by
   obtain ⟨m', hm, w7⟩ := hN σ7 H7 n7
   refine ⟨m', hm, i + 1, σ7, H7, I7.unpinned, T.keep _ _ _ st5 fun b hb o e => (I7.pin (b, o) (List.mem_append_right _ (List.mem_append_right _ (mem_pinsAt hb e)))).1, fun b hb => ?_, w7⟩
   obtain ⟨o, e, d⟩ := T.obj _ _ st5 b hb
   exact (I7.pin (b, o) (List.mem_append_right _ (List.mem_append_right _ (mem_pinsAt hb e)))).2.1
  cases f with
  | next => obtain ⟨σ7, H7, I7, n7⟩ := q7; exact again I7 n7
  | cont => obtain ⟨σ7, H7, I7, n7⟩ := q7; exact again I7 n7
  | brk => obtain ⟨σ7, H7, I7, q7⟩ := q7; exact ⟨σ7, H7, I7.unpinned, q7⟩
  | ret v => obtain ⟨x7, σ7, H7, I7, r7, q7⟩ := q7; exact ⟨x7, σ7, H7, I7.unpinned, r7, q7⟩
end
theorem for_list {K : PySem.W.Frag} {a : Addr} {xs : List V} {g : TG} {tb : TS} {D : Ends} {σ : St} {H : Hp} (Pv : Nat → St → Hp → Prop) (h0 : Pv 0 σ H) (hl : ∀ i σ H, i ≤ xs.length → Pv i σ H → SqL K H a xs)
  (hs : ∀ i x σ H, xs[i]? = some x → Pv i σ H → g x σ H fun σ2 H2 => tb { D with nx := Pv (i + 1), ct := Pv (i + 1), bk := D.nx } σ2 H2) (hd : ∀ σ H, Pv xs.length σ H → D.nx σ H) :
  ∃ W : Nat → Nat → St → Hp → Prop, (∃ m, W 0 m σ H) ∧ ∀ i m σ H, W i m σ H →
   ((Itl K a).stop i H ∧ D.nx σ H) ∨ ((Itl K a).go i H ∧ ∃ N : St → Hp → Prop, (∀ σ' H', N σ' H' → ∃ m', m' < m ∧ W (i + 1) m' σ' H') ∧ ∀ x H', (Itl K a).yld i H x H' → g x σ H' fun σ2 H2 => tb { D with nx := N, ct := N, bk := D.nx } σ2 H2) := by
 refine ⟨fun i m σ H => m = xs.length - i ∧ i ≤ xs.length ∧ Pv i σ H, ⟨xs.length, by simp, Nat.zero_le _, h0⟩, ?_⟩
 rintro i m σ H ⟨rfl, hi, p⟩
 have q := hl i σ H hi p
 by_cases hlt : i < xs.length
 ·refine .inr ⟨⟨xs, xs[i], q, by simp [hlt]⟩, Pv (i + 1), fun σ' H' p' => ⟨xs.length - (i + 1), by omega, rfl, hlt, p'⟩, fun x H' y => ?_⟩
  obtain ⟨e, y⟩ := y
  subst e
  exact hs i x σ _ (y xs q) p
 ·have e : i = xs.length := by omega
  subst e
  exact .inl ⟨⟨xs, q, Nat.le_refl _⟩, hd σ H p⟩
theorem for_tup {K : PySem.W.Frag} {a : Addr} {xs : List V} {g : TG} {tb : TS} {D : Ends} {σ : St} {H : Hp} (Pv : Nat → St → Hp → Prop) (h0 : Pv 0 σ H) (hl : ∀ i σ H, i ≤ xs.length → Pv i σ H → SqT K H a xs)
  (hs : ∀ i x σ H, xs[i]? = some x → Pv i σ H → g x σ H fun σ2 H2 => tb { D with nx := Pv (i + 1), ct := Pv (i + 1), bk := D.nx } σ2 H2) (hd : ∀ σ H, Pv xs.length σ H → D.nx σ H) :
  ∃ W : Nat → Nat → St → Hp → Prop, (∃ m, W 0 m σ H) ∧ ∀ i m σ H, W i m σ H →
   ((Itt K a).stop i H ∧ D.nx σ H) ∨ ((Itt K a).go i H ∧ ∃ N : St → Hp → Prop, (∀ σ' H', N σ' H' → ∃ m', m' < m ∧ W (i + 1) m' σ' H') ∧ ∀ x H', (Itt K a).yld i H x H' → g x σ H' fun σ2 H2 => tb { D with nx := N, ct := N, bk := D.nx } σ2 H2) := by
 refine ⟨fun i m σ H => m = xs.length - i ∧ i ≤ xs.length ∧ Pv i σ H, ⟨xs.length, by simp, Nat.zero_le _, h0⟩, ?_⟩
 rintro i m σ H ⟨rfl, hi, p⟩
 have q := hl i σ H hi p
 by_cases hlt : i < xs.length
 ·refine .inr ⟨⟨xs, xs[i], q, by simp [hlt]⟩, Pv (i + 1), fun σ' H' p' => ⟨xs.length - (i + 1), by omega, rfl, hlt, p'⟩, fun x H' y => ?_⟩
  obtain ⟨e, y⟩ := y
  subst e
  exact hs i x σ _ (y xs q) p
 ·have e : i = xs.length := by omega
  subst e
  exact .inl ⟨⟨xs, q, Nat.le_refl _⟩, hd σ H p⟩
theorem for_range {lo : Int} {n : Nat} {g : TG} {tb : TS} {D : Ends} {σ : St} {H : Hp} (Pv : Nat → St → Hp → Prop) (h0 : Pv 0 σ H)
  (hs : ∀ i σ H, i < n → Pv i σ H → g (.int (lo + i)) σ H fun σ2 H2 => tb { D with nx := Pv (i + 1), ct := Pv (i + 1), bk := D.nx } σ2 H2) (hd : ∀ σ H, Pv n σ H → D.nx σ H) :
  ∃ W : Nat → Nat → St → Hp → Prop, (∃ m, W 0 m σ H) ∧ ∀ i m σ H, W i m σ H →
   ((Itr lo n).stop i H ∧ D.nx σ H) ∨ ((Itr lo n).go i H ∧ ∃ N : St → Hp → Prop, (∀ σ' H', N σ' H' → ∃ m', m' < m ∧ W (i + 1) m' σ' H') ∧ ∀ x H', (Itr lo n).yld i H x H' → g x σ H' fun σ2 H2 => tb { D with nx := N, ct := N, bk := D.nx } σ2 H2) := by
 refine ⟨fun i m σ H => m = n - i ∧ i ≤ n ∧ Pv i σ H, ⟨n, by simp, Nat.zero_le _, h0⟩, ?_⟩
 rintro i m σ H ⟨rfl, hi, p⟩
 by_cases hlt : i < n
 ·refine .inr ⟨hlt, Pv (i + 1), fun σ' H' p' => ⟨n - (i + 1), by omega, rfl, hlt, p'⟩, fun x H' y => ?_⟩
  obtain ⟨e, y⟩ := y
  subst e y
  exact hs i σ _ hlt p
 ·have e : i = n := by omega
  subst e
  exact .inl ⟨Nat.le_refl _, hd σ H p⟩
end L2
namespace L2
open PySem PySem.Spec PyProof.Rows
noncomputable abbrev R2 := V → V → Hp → VK → Prop
noncomputable def OpR (X : Cx) (f : Value → Value → Sem Value) (r : R2) : Prop :=
 ∀ (pins : List (Addr × Obj)) (s : Shared) (σ : St) (H : Hp) (x y : V) (v u : Value) (Q : VK), Inv X pins σ H s → RelV x v → RelV y u → r x y H Q →
  wpAny (model X.prog X.w) X.A (f v u) (EP X pins σ Q) X.xe s
noncomputable def CallR (X : Cx) (f : Value) (r : List V → Hp → VK → Prop) : Prop :=
 ∀ (pins : List (Addr × Obj)) (s : Shared) (σ : St) (H : Hp) (xs : List V) (us : List Value) (Q : VK), Inv X pins σ H s → Vals xs us → r xs H Q →
  wpAny (model X.prog X.w) X.A (call f us) (EP X pins σ Q) X.xe s
noncomputable def tOp (r : R2) (ta tb : TE) : TE := fun σ H Q => ta σ H fun x H1 => tb σ H1 fun y H2 => r x y H2 Q
noncomputable def rI (C : Int → Int → Prop) (g : Int → Int → V) : R2 := fun x y H Q => ∃ i j, x = .int i ∧ y = .int j ∧ C i j ∧ Q (g i j) H
noncomputable def rI0 (g : Int → Int → V) : R2 := fun x y H Q => ∃ i j, x = .int i ∧ y = .int j ∧ Q (g i j) H
section
variable {X : Cx} {a b c : Expr} {ta tb tc : TE} {pos : Pos}
theorem binT (ha : PE X a ta) (hb : PE X b tb) {pins : List (Addr × Obj)} {s : Shared} {σ : St} {H : Hp} {R : V → V → Hp → Prop} (I : Inv X pins σ H s)
  (h : ta σ H fun x H1 => tb σ H1 fun y H2 => R x y H2) {Q : Value → Shared → Prop} {f : Value → Value → Sem Value}
  (hf : ∀ v u s2 x y H2, Inv X pins σ H2 s2 → RelV x v → RelV y u → R x y H2 → wpAny (model X.prog X.w) X.A (f v u) Q X.xe s2) :
  wpAny (model X.prog X.w) X.A (eval a X.env) (fun v s₁ => wpAny (model X.prog X.w) X.A (eval b X.env) (fun u s₂ => wpAny (model X.prog X.w) X.A (f v u) Q X.xe s₂) X.xe s₁) X.xe s := by
 refine thn (ha pins s σ H _ I h) fun v s1 ⟨x, H1, I1, r1, q1⟩ => ?_
 refine thn (hb pins s1 σ H1 _ I1 q1) fun u s2 ⟨y, H2, I2, r2, q2⟩ => ?_
 exact hf v u s2 x y H2 I2 r1 r2 q2
theorem pe_op {op : Operator} {r : R2} (ho : OpR X (binaryOp op) r) (ha : PE X a ta) (hb : PE X b tb) : PE X (.BinOp a op b pos) (tOp r ta tb) := by
 intro pins s σ H Q I h
 exact wpAny_BinOp (binT ha hb I h fun v u s2 x y H2 I2 rx ry q => ho pins s2 σ H2 x y v u Q I2 rx ry q)
theorem opI {f : Value → Value → Sem Value} {C : Int → Int → Prop} {g : Int → Int → Int}
  (rule : ∀ (i j : Int) (t u : Tok) (s : Shared) (Q : Value → Shared → Prop) (E : Value → Shared → Prop), C i j → Q (.int (g i j) s.toks) { s with toks := s.toks + 1 } → wpAny (model X.prog X.w) X.A (f (.int i t) (.int j u)) Q E s) :
  OpR X f (rI C fun i j => .int (g i j)) := by
 intro pins s σ H x y v u Q I rx ry h
 obtain ⟨i, j, rfl, rfl, hc, q⟩ := h
 obtain ⟨t, rfl⟩ := rx
 obtain ⟨t', rfl⟩ := ry
 exact rule i j t t' s _ _ hc ⟨.int (g i j), H, I.tok _, ⟨_, rfl⟩, q⟩
theorem opI0 {f : Value → Value → Sem Value} {g : Int → Int → Int}
  (rule : ∀ (i j : Int) (t u : Tok) (s : Shared) (Q : Value → Shared → Prop) (E : Value → Shared → Prop), Q (.int (g i j) s.toks) { s with toks := s.toks + 1 } → wpAny (model X.prog X.w) X.A (f (.int i t) (.int j u)) Q E s) :
  OpR X f (rI0 fun i j => .int (g i j)) := by
 intro pins s σ H x y v u Q I rx ry h
 obtain ⟨i, j, rfl, rfl, q⟩ := h
 obtain ⟨t, rfl⟩ := rx
 obtain ⟨t', rfl⟩ := ry
 exact rule i j t t' s _ _ ⟨.int (g i j), H, I.tok _, ⟨_, rfl⟩, q⟩
theorem opB0 {f : Value → Value → Sem Value} {g : Int → Int → Bool}
  (rule : ∀ (i j : Int) (t u : Tok) (s : Shared) (Q : Value → Shared → Prop) (E : Value → Shared → Prop), Q (.bool (g i j)) s → wpAny (model X.prog X.w) X.A (f (.int i t) (.int j u)) Q E s) :
  OpR X f (rI0 fun i j => .bl (g i j)) := by
 intro pins s σ H x y v u Q I rx ry h
 obtain ⟨i, j, rfl, rfl, q⟩ := h
 obtain ⟨t, rfl⟩ := rx
 obtain ⟨t', rfl⟩ := ry
 exact rule i j t t' s _ _ ⟨.bl (g i j), H, I, rfl, q⟩
noncomputable def CPow (i j : Int) : Prop := 0 ≤ j ∧ j ≤ 1000000 ∧ i.natAbs < 2 ^ 64
theorem op_add : OpR X (binaryOp .Add) (rI0 fun i j => .int (i + j)) := opI0 fun _ _ _ _ _ _ _ q => add_int q
theorem op_sub : OpR X (binaryOp .Sub) (rI0 fun i j => .int (i - j)) := opI0 fun _ _ _ _ _ _ _ q => sub_int q
theorem op_mod : OpR X (binaryOp .Mod) (rI (fun _ j => 0 < j) fun i j => .int (i % j)) := opI fun i j _ _ _ _ _ hc q => by
 have h1 : (0 : Int) < j := hc
 exact mod_int' (by omega) (by rw [Int.fmod_eq_emod_of_nonneg i (by omega)]; exact q)
theorem op_pow : OpR X (binaryOp .Pow) (rI CPow fun i j => .int (i ^ j.toNat)) := opI fun _ _ _ _ _ _ _ hc q => pow_int_small hc.1 hc.2.1 hc.2.2 q
end
noncomputable def scal : V → V → Bool
 | .non, .non => true | .non, .int _ => true | .int _, .non => true | .non, .bl _ => true | .bl _, .non => true | .non, .str _ => true | .str _, .non => true
 | .int _, .int _ => true | .bl _, .bl _ => true | .str _, .str _ => true | .byt _, .byt _ => true
 | .int _, .str _ => true | .str _, .int _ => true | .bl _, .str _ => true | .str _, .bl _ => true
 | _, _ => false
noncomputable def rEq : R2 := fun x y H Q => scal x y = true ∧ Q (.bl (decide (x = y))) H
noncomputable def rNe : R2 := fun x y H Q => scal x y = true ∧ Q (.bl (!decide (x = y))) H
theorem dec_int {i j : Int} : decide (V.int i = V.int j) = (i == j) := by
 rw [Bool.eq_iff_iff]
 simp
theorem dec_bl {i j : Bool} : decide (V.bl i = V.bl j) = (i == j) := by
 rw [Bool.eq_iff_iff]
 simp
theorem dec_str {i j : Str} : decide (V.str i = V.str j) = (i == j) := by
 rw [Bool.eq_iff_iff]
 simp
theorem dec_byt {i j : Array UInt8} : decide (V.byt i = V.byt j) = (i.toList == j.toList) := by
 rw [Bool.eq_iff_iff]
 cases i
 cases j
 simp
section
variable {X : Cx} {a b c : Expr} {ta tb tc : TE} {pos : Pos}
theorem fin_bl {pins : List (Addr × Obj)} {σ : St} {H : Hp} {s : Shared} {Q : VK} {k k' : Bool} (I : Inv X pins σ H s) (q : Q (.bl k) H) (e : k = k') : EP X pins σ Q (.bool k') s := by
 subst e
 exact ⟨.bl k, H, I, rfl, q⟩
theorem op_eq : OpR X (compareOp .Eq) rEq := by
 intro pins s σ H x y v u Q I rx ry h
 obtain ⟨hs, q⟩ := h
 cases x with
 | non =>
  cases rx
  cases y with
  | non => cases ry; exact PySem.EqNone.eq_none_none (fin_bl I q (by simp))
  | bl j => cases ry; exact PySem.EqNone.eq_none_bool (fin_bl I q (by simp))
  | int j => obtain ⟨t', rfl⟩ := ry; exact PySem.EqNone.eq_none_int (fin_bl I q (by simp))
  | str j => obtain ⟨t', rfl⟩ := ry; exact PySem.EqNone.eq_none_str (fin_bl I q (by simp))
  | _ => exact absurd (show false = true from hs) Bool.false_ne_true
 | bl i =>
  cases rx
  cases y with
  | non => cases ry; exact PySem.EqNone.eq_bool_none (fin_bl I q (by simp))
  | bl j => cases ry; exact eq_bool (fin_bl I q dec_bl)
  | str j => obtain ⟨t', rfl⟩ := ry; exact PySem.EqMixed.eq_bool_str (fin_bl I q (by simp))
  | _ => exact absurd (show false = true from hs) Bool.false_ne_true
 | int i =>
  obtain ⟨t, rfl⟩ := rx
  cases y with
  | non => cases ry; exact PySem.EqNone.eq_int_none (fin_bl I q (by simp))
  | int j => obtain ⟨t', rfl⟩ := ry; exact eq_int (fin_bl I q dec_int)
  | str j => obtain ⟨t', rfl⟩ := ry; exact PySem.EqMixed.eq_int_str (fin_bl I q (by simp))
  | _ => exact absurd (show false = true from hs) Bool.false_ne_true
 | str i =>
  obtain ⟨t, rfl⟩ := rx
  cases y with
  | non => cases ry; exact PySem.EqNone.eq_str_none (fin_bl I q (by simp))
  | bl j => cases ry; exact PySem.EqMixed.eq_str_bool (fin_bl I q (by simp))
  | int j => obtain ⟨t', rfl⟩ := ry; exact PySem.EqMixed.eq_str_int (fin_bl I q (by simp))
  | str j => obtain ⟨t', rfl⟩ := ry; exact eq_str (fin_bl I q dec_str)
  | _ => exact absurd (show false = true from hs) Bool.false_ne_true
 | byt i =>
  obtain ⟨t, rfl⟩ := rx
  cases y with
  | byt j => obtain ⟨t', rfl⟩ := ry; exact PySem.W.eq_bytes (fin_bl I q dec_byt)
  | _ => exact absurd (show false = true from hs) Bool.false_ne_true
 | _ => cases y <;> exact absurd (show false = true from hs) Bool.false_ne_true
theorem op_ne : OpR X (compareOp .NotEq) rNe := by
 intro pins s σ H x y v u Q I rx ry h
 obtain ⟨hs, q⟩ := h
 cases x with
 | non =>
  cases rx
  cases y with
  | non => cases ry; exact PySem.EqNone.ne_none_none (fin_bl I q (by simp))
  | bl j => cases ry; exact PySem.EqNone.ne_none_bool (fin_bl I q (by simp))
  | int j => obtain ⟨t', rfl⟩ := ry; exact PySem.EqNone.ne_none_int (fin_bl I q (by simp))
  | str j => obtain ⟨t', rfl⟩ := ry; exact PySem.EqNone.ne_none_str (fin_bl I q (by simp))
  | _ => exact absurd (show false = true from hs) Bool.false_ne_true
 | bl i =>
  cases rx
  cases y with
  | non => cases ry; exact PySem.EqNone.ne_bool_none (fin_bl I q (by simp))
  | bl j => cases ry; exact ne_bool (fin_bl I q (congrArg not dec_bl))
  | str j => obtain ⟨t', rfl⟩ := ry; exact PySem.EqMixed.ne_bool_str (fin_bl I q (by simp))
  | _ => exact absurd (show false = true from hs) Bool.false_ne_true
 | int i =>
  obtain ⟨t, rfl⟩ := rx
  cases y with
  | non => cases ry; exact PySem.EqNone.ne_int_none (fin_bl I q (by simp))
  | int j => obtain ⟨t', rfl⟩ := ry; exact ne_int (fin_bl I q (congrArg not dec_int))
  | str j => obtain ⟨t', rfl⟩ := ry; exact PySem.EqMixed.ne_int_str (fin_bl I q (by simp))
  | _ => exact absurd (show false = true from hs) Bool.false_ne_true
 | str i =>
  obtain ⟨t, rfl⟩ := rx
  cases y with
  | non => cases ry; exact PySem.EqNone.ne_str_none (fin_bl I q (by simp))
  | bl j => cases ry; exact PySem.EqMixed.ne_str_bool (fin_bl I q (by simp))
  | int j => obtain ⟨t', rfl⟩ := ry; exact PySem.EqMixed.ne_str_int (fin_bl I q (by simp))
  | str j => obtain ⟨t', rfl⟩ := ry; exact ne_str (fin_bl I q (congrArg not dec_str))
  | _ => exact absurd (show false = true from hs) Bool.false_ne_true
 | byt i =>
  obtain ⟨t, rfl⟩ := rx
  cases y with
  | byt j => obtain ⟨t', rfl⟩ := ry; exact PySem.W.ne_bytes (fin_bl I q (congrArg not dec_byt))
  | _ => exact absurd (show false = true from hs) Bool.false_ne_true
 | _ => cases y <;> exact absurd (show false = true from hs) Bool.false_ne_true
theorem op_lt : OpR X (compareOp .Lt) (rI0 fun i j => .bl (decide (i < j))) := opB0 fun _ _ _ _ _ _ _ q => lt_int q
theorem op_le : OpR X (compareOp .LtE) (rI0 fun i j => .bl (decide (i ≤ j))) := opB0 fun _ _ _ _ _ _ _ q => le_int q
theorem op_gt : OpR X (compareOp .Gt) (rI0 fun i j => .bl (decide (j < i))) := opB0 fun _ _ _ _ _ _ _ q => gt_int q
theorem op_ge : OpR X (compareOp .GtE) (rI0 fun i j => .bl (decide (j ≤ i))) := opB0 fun _ _ _ _ _ _ _ q => ge_int q
theorem op_in_str : OpR X (compareOp .In) (fun x y H Q => ∃ i j, x = .str i ∧ y = .str j ∧ Q (.bl (!(Builtin.Str.occurrences j i 0 j.length 1).isEmpty)) H) := by
 intro pins s σ H x y v u Q I rx ry h
 obtain ⟨i, j, rfl, rfl, q⟩ := h
 obtain ⟨t, rfl⟩ := rx
 obtain ⟨t', rfl⟩ := ry
 exact in_str (fin_bl I q rfl)
theorem op_isN : OpR X (compareOp .Is) (fun x y H Q => y = .non ∧ Q (.bl (decide (x = .non))) H) := by
 intro pins s σ H x y v u Q I rx ry h
 obtain ⟨rfl, q⟩ := h
 cases ry
 refine is_none_gen (fin_bl I q ?_)
 cases x <;> first
  | (cases rx; rfl)
  | (obtain ⟨t, rfl⟩ := rx; rfl)
theorem nomark (b : Expr) {op : CmpOp} (h : op ≠ .In := by decide) (h2 : op ≠ .NotIn := by decide) : behindInMarks op b = false := by
 have e1 : (op == CmpOp.In) = false := by cases op <;> first | rfl | exact absurd rfl h
 have e2 : (op == CmpOp.NotIn) = false := by cases op <;> first | rfl | exact absurd rfl h2
 cases b <;> simp [behindInMarks, e1, e2]
theorem pe_cmpR {op : CmpOp} {r : R2} (ho : OpR X (compareOp op) r) (ha : PE X a ta) (hb : PE X b tb) (hm : behindInMarks op b = false) : PE X (.Compare a [op] [b] pos) (tOp r ta tb) := by
 intro pins s σ H Q I h
 exact wpAny_Compare1 (binT ha hb I h fun v u s2 x y H2 I2 rx ry q => ho pins s2 σ H2 x y v u Q I2 rx ry q) hm
noncomputable def tTest (t : TE) : TT := fun σ H Q => t σ H fun x H' => ∃ k, x = .bl k ∧ Q k H'
theorem pt_cmpR {op : CmpOp} {r : R2} (ho : OpR X (compareOp op) r) (ha : PE X a ta) (hb : PE X b tb) (hm : behindInMarks op b = false) : PT X (.Compare a [op] [b] pos) (tTest (tOp r ta tb)) := by
 intro pins s σ H Q I h
 refine wpAny_isTrue_Compare1 (thn (ha pins s σ H _ I h) fun v s1 ⟨x, H1, I1, r1, q1⟩ => thn (hb pins s1 σ H1 _ I1 q1) fun u s2 ⟨y, H2, I2, r2, q2⟩ =>
  thn (ho pins s2 σ H2 x y v u _ I2 r1 r2 q2) fun c s3 ⟨z, H3, I3, r3, k, e, q3⟩ => ?_) hm
 subst e
 cases r3
 exact wpAny_truthy_bool ⟨H3, I3, q3⟩
noncomputable def tChain (r r' : R2) (ta tb tc : TE) : TE := fun σ H Q => ta σ H fun x H1 => tb σ H1 fun y H2 => r x y H2 fun z H3 => ∃ k, z = .bl k ∧
 (if k = true then tc σ H3 fun w' H4 => r' y w' H4 Q else Q (.bl false) H3)
theorem pe_chain {op op' : CmpOp} {r r' : R2} (ho : OpR X (compareOp op) r) (ho' : OpR X (compareOp op') r') (ha : PE X a ta) (hb : PE X b tb) (hc : PE X c tc)
  (hm : lastMarks [op, op'] [b, c] = false := by with_unfolding_all rfl) : PE X (.Compare a [op, op'] [b, c] pos) (tChain r r' ta tb tc) := by
 intro pins s σ H Q I h
 refine Compare_chain (thn (ha pins s σ H _ I h) fun v s1 ⟨x, H1, I1, r1, q1⟩ => chain_link (thn (hb pins s1 σ H1 _ I1 q1) fun u s2 ⟨y, H2, I2, r2, q2⟩ =>
  thn (ho pins s2 σ H2 x y v u _ I2 r1 r2 q2) fun d s3 ⟨z, H3, I3, r3, k, e, q3⟩ => ?_)) hm
 subst e
 cases r3
 refine wpAny_truthy_bool ?_
 cases k with
 | false => exact ite_ff ⟨.bl false, H3, I3, rfl, q3⟩
 | true => exact ite_tt (chain_last (thn (hc pins s3 σ H3 _ I3 q3) fun w' s4 ⟨z', H4, I4, r4, q4⟩ => ho' pins s4 σ H4 y z' u w' Q I4 r2 r4 q4))
theorem pt_chain {op op' : CmpOp} {r r' : R2} (ho : OpR X (compareOp op) r) (ho' : OpR X (compareOp op') r') (ha : PE X a ta) (hb : PE X b tb) (hc : PE X c tc)
  (hm : lastMarks [op, op'] [b, c] = false := by with_unfolding_all rfl) : PT X (.Compare a [op, op'] [b, c] pos) (tTest (tChain r r' ta tb tc)) := by
 intro pins s σ H Q I h
 refine isTrue_chain (thn (ha pins s σ H _ I h) fun v s1 ⟨x, H1, I1, r1, q1⟩ => test_link (thn (hb pins s1 σ H1 _ I1 q1) fun u s2 ⟨y, H2, I2, r2, q2⟩ =>
  thn (ho pins s2 σ H2 x y v u _ I2 r1 r2 q2) fun d s3 ⟨z, H3, I3, r3, k, e, q3⟩ => ?_)) hm
 subst e
 cases r3
 refine wpAny_truthy_bool ?_
 cases k with
 | false =>
  obtain ⟨k', e', q'⟩ := q3
  cases e'
  exact ite_ff ⟨H3, I3, q'⟩
 | true =>
  refine ite_tt (test_last (thn (hc pins s3 σ H3 _ I3 q3) fun w' s4 ⟨z', H4, I4, r4, q4⟩ => thn (ho' pins s4 σ H4 y z' u w' _ I4 r2 r4 q4) fun d' s5 ⟨z2, H5, I5, r5, k2, e2, q5⟩ => ?_))
  subst e2
  cases r5
  exact wpAny_truthy_bool ⟨H5, I5, q5⟩
theorem line63 : (sizeLine : Nat) < 2 ^ 63 := by rw [sizeLine_eq]; decide
theorem op_add_str : OpR X (binaryOp .Add) (fun x y H Q => ∃ i j, x = .str i ∧ y = .str j ∧ i.length + j.length ≤ sizeLine ∧ Q (.str (i ++ j)) H) := by
 intro pins s σ H x y v u Q I rx ry h
 obtain ⟨i, j, rfl, rfl, hz, q⟩ := h
 obtain ⟨t, rfl⟩ := rx
 obtain ⟨t', rfl⟩ := ry
 exact add_str (fun t' tk => ⟨.str (i ++ j), H, I.tok _, ⟨_, rfl⟩, q⟩) hz
theorem vals1 {x : V} {us : List Value} (r : Vals [x] us) : ∃ u, us = [u] ∧ RelV x u := by
 cases r with
 | cons r1 r2 => cases r2; exact ⟨_, rfl, r1⟩
theorem vals2 {x y : V} {us : List Value} (r : Vals [x, y] us) : ∃ u w', us = [u, w'] ∧ RelV x u ∧ RelV y w' := by
 cases r with
 | cons r1 r2 =>
  cases r2 with
  | cons r3 r4 => cases r4; exact ⟨_, _, rfl, r1, r3⟩
theorem call_max2 (hc : X.calm = true) : CallR X (.builtin "max") (fun xs H Q => ∃ i j, xs = [.int i, .int j] ∧ Q (.int (if j > i then j else i)) H) := by
 intro pins s σ H xs us Q I r h
 obtain ⟨i, j, rfl, q⟩ := h
 obtain ⟨u, w', rfl, ⟨t, rfl⟩, ⟨t', rfl⟩⟩ := vals2 r
 refine max_two_ints (I.ok.hd hc) fun h' tk k => ⟨_, H, I.kept k, ?_, q⟩
 by_cases hj : j > i
 ·rw [if_pos hj, if_pos hj]; exact ⟨_, rfl⟩
 ·rw [if_neg hj, if_neg hj]; exact ⟨_, rfl⟩
theorem call_min2 (hc : X.calm = true) : CallR X (.builtin "min") (fun xs H Q => ∃ i j, xs = [.int i, .int j] ∧ Q (.int (if j < i then j else i)) H) := by
 intro pins s σ H xs us Q I r h
 obtain ⟨i, j, rfl, q⟩ := h
 obtain ⟨u, w', rfl, ⟨t, rfl⟩, ⟨t', rfl⟩⟩ := vals2 r
 refine min_two_ints (I.ok.hd hc) fun h' tk k => ⟨_, H, I.kept k, ?_, q⟩
 by_cases hj : j < i
 ·rw [if_pos hj, if_pos hj]; exact ⟨_, rfl⟩
 ·rw [if_neg hj, if_neg hj]; exact ⟨_, rfl⟩
theorem call_int1 : CallR X (.type "int") (fun xs H Q => (∃ i, xs = [.int i] ∧ Q (.int i) H) ∨ ∃ k, xs = [.bl k] ∧ Q (.int (if k then 1 else 0)) H) := by
 intro pins s σ H xs us Q I r h
 rcases h with ⟨i, rfl, q⟩ | ⟨k, rfl, q⟩
 ·obtain ⟨u, rfl, t, rfl⟩ := vals1 r
  exact call_int_int ⟨.int i, H, I, ⟨_, rfl⟩, q⟩
 ·obtain ⟨u, rfl, r1⟩ := vals1 r
  cases r1
  exact call_int_bool ⟨.int (if k then 1 else 0), H, I.tok _, ⟨_, rfl⟩, q⟩
noncomputable def LenV (K : PySem.W.Frag) (x : V) (H : Hp) (n : Nat) : Prop :=
 match x with
 | .str y => y.length ≤ sizeLine ∧ n = y.length
 | .byt y => y.size ≤ sizeLine ∧ n = y.size
 | .ref p => (∃ xs, SqL K H p xs ∧ n = xs.length) ∨ ∃ xs, SqT K H p xs ∧ n = xs.length
 | _ => False
theorem call_len : CallR X (.builtin "len") (fun xs H Q => ∃ x n, xs = [x] ∧ LenV X.K x H n ∧ Q (.int n) H) := by
 intro pins s σ H xs us Q I r h
 obtain ⟨x, n, rfl, e, q⟩ := h
 obtain ⟨u, rfl, rx⟩ := vals1 r
 have hl := line63
 have hs : sizeLine = 16777216 := sizeLine_eq
 cases x with
 | str y =>
  obtain ⟨t, rfl⟩ := rx
  obtain ⟨hy, e'⟩ : y.length ≤ sizeLine ∧ n = y.length := e
  subst e'
  exact len_str (by omega) ⟨.int _, H, I.tok _, ⟨_, rfl⟩, q⟩
 | byt y =>
  obtain ⟨t, rfl⟩ := rx
  obtain ⟨hy, e'⟩ : y.size ≤ sizeLine ∧ n = y.size := e
  subst e'
  exact PySem.W.len_bytes (by omega) ⟨.int _, H, I.tok _, ⟨_, rfl⟩, q⟩
 | ref p =>
  cases rx
  have e' : (∃ xs, SqL X.K H p xs ∧ n = xs.length) ∨ ∃ xs, SqT X.K H p xs ∧ n = xs.length := e
  rcases e' with ⟨xs, hx, e'⟩ | ⟨xs, hx, e'⟩
  ·subst e'
   obtain ⟨its, r', pl, hz⟩ := I.list hx
   have hlen := r'.length
   exact Calls.call_len_list pl.isList (by simp only [List.size_toArray]; omega) ⟨.int xs.length, H, I.tok _, ⟨_, by simp only [List.size_toArray]; rw [hlen]⟩, q⟩
  ·subst e'
   obtain ⟨its, r', pl, hz⟩ := I.tuple hx
   have hlen := r'.length
   exact len_tuple pl (by simp only [List.size_toArray]; omega) ⟨.int xs.length, H, I.tok _, ⟨_, by simp only [List.size_toArray]; rw [hlen]⟩, q⟩
 | _ => exact (show False from e).elim
end
end L2
namespace L2
open PySem PySem.Spec PyProof.Rows
structure ObjM (h : Heap) (x dx C : Addr) (mA : Str → Option Value) : Prop where
 obj : h.get? x = some (PySem.W.instObj C dx)
 ns : h.Ns1 dx mA
 ne : dx ≠ x
theorem lookIn_ns {h : Heap} {dx : Addr} {mA : Str → Option Value} (n : h.Ns1 dx mA) : ∃ od, h.get? dx = some od ∧ ∀ name, PySem.W.lookIn name od = some (mA name) := by
 obtain ⟨o, es, ep, ho, hd, hk, _, hm⟩ := n
 refine ⟨o, ho, fun name => ?_⟩
 have e := hm name
 unfold nsFind findBy at e
 rw [← Array.find?_toList] at e
 unfold PySem.W.lookIn
 rw [hd]
 dsimp only
 split
 ·rename_i y q
  rw [q] at e
  exact congrArg some e
 ·rename_i q
  rw [q] at e
  have a : es.toList.any (·.refKey) = false := by
   rw [List.any_eq_false]
   intro y hy
   obtain ⟨z, t, hkey⟩ := hk y (Array.mem_toList_iff.mp hy)
   simp [DictEntry.refKey, hkey]
  have a' : ¬ es.toList.any (·.refKey) = true := by rw [a]; exact Bool.false_ne_true
  rw [if_neg a']
  exact congrArg some e
theorem ObjM.look {h : Heap} {x dx C : Addr} {mA : Str → Option Value} (I : ObjM h x dx C mA) : ∃ od, PySem.W.InstAt h x (PySem.W.instObj C dx) C (some od) ∧ ∀ name, PySem.W.lookIn name od = some (mA name) :=
 let ⟨od, ho, hl⟩ := lookIn_ns I.ns
 ⟨od, ⟨I.obj, rfl, rfl, ho⟩, hl⟩
section
variable {prog : Program} {w : World} {A : Around} {E : Value → Shared → Prop} {s : Shared} {K : PySem.W.Frag} {x dx C f : Addr} {mA : Str → Option Value} {name : Str} {v : Value}
end
theorem RelO.some_of {v : V} {o : Option Value} (r : RelO (some v) o) : ∃ u, o = some u ∧ RelV v u := by
 cases o with
 | none => exact (show False from r).elim
 | some u => exact ⟨u, rfl, r⟩
section
variable {P : Program} {w : World} {H H' : Hp} {h h' : Heap} {a C dx : Addr} {fs fs' : List (Str × V)}
theorem ins_get (hok : HOk P w H h) (e : H a = some (.ins C dx fs)) : ∃ mA, ObjM h a dx C mA ∧ (∀ f, RelO (fs.lookup f) (mA f)) ∧ PySem.Within mA (fs.map (·.1)) ∧ fs.length ≤ 1000 ∧ H dx = some (.own a) := by
 obtain ⟨d, z, ne, ob, mA, n, r, q⟩ := (show ObjOk P w H h a (.ins C dx fs) from hok a _ e)
 exact ⟨mA, ⟨ob, n, ne⟩, r, q, z, d⟩
end
structure Cls (K : PySem.W.Frag) (C : Addr) : Prop where
 pg : PySem.W.plainGet K C Str.empty = true
 hd : PySem.W.hasDictIn K C = true
 po : PySem.W.plainOver K C = true
 sa : PySem.W.findIn K (.ref C) "__setattr__" = some (some (.builtin "object.__setattr__"))
theorem Cls.get {K : PySem.W.Frag} {C : Addr} (c : Cls K C) (f : Str) : PySem.W.plainGet K C f = true := c.pg
structure Con (K : PySem.W.Frag) (C : Addr) (f : Str) (v : V) (u : Value) : Prop where
 at_ : PySem.W.findIn K (.ref C) f = some (some u)
 rel : RelV v u
 get : PySem.W.specialIn K u "__get__" = some none
 cp : PySem.W.copiedNames.contains f = false
structure Meth (K : PySem.W.Frag) (C : Addr) (m : Str) (f : Addr) : Prop where
 at_ : PySem.W.findIn K (.ref C) m = some (some (.ref f))
 fn : PySem.W.isFn K (.ref f) = true
 kp : PySem.W.keepIn K (.ref f) = true
section
variable {X : Cx} {pins : List (Addr × Obj)} {σ : St} {H : Hp} {s : Shared} {a C dx : Addr} {fs : List (Str × V)} {f : Str} {v : V} {A : Around} {E : Value → Shared → Prop}
end
section
variable {X : Cx} {o e value : Expr} {f : Str} {pos pos' tpos : Pos} {ta tv : TE}
end
section
variable {X : Cx} {pins : List (Addr × Obj)} {σ : St} {H : Hp} {s : Shared} {A : Around} {E : Value → Shared → Prop} {Q : Value → Shared → Prop} {c : Value} {b : Bool}
inductive TyOf (K : PySem.W.Frag) (H : Hp) : V → Value → Prop where
 | non : TyOf K H .non (.type "NoneType")
 | bl (x : Bool) : TyOf K H (.bl x) (.type "bool")
 | int (i : Int) : TyOf K H (.int i) (.type "int")
 | str (x : Str) : TyOf K H (.str x) (.type "str")
 | flt (x : UInt64) : TyOf K H (.flt x) (.type "float")
 | lst {a : Addr} {xs : List V} (e : H a = some (.lst xs)) : TyOf K H (.ref a) (.type "list")
 | frz {a : Addr} {o : Obj} {xs : List V} (e : H a = some (.frz o (.lst xs))) : TyOf K H (.ref a) (.type "list")
 | tup {a : Addr} {xs : List V} (e : H a = some (.tup xs)) : TyOf K H (.ref a) (.type "tuple")
 | dK {a : Addr} {kvs : List (Key × V)} (e : H a = some (.dK kvs)) : TyOf K H (.ref a) (.type "dict")
 | dT {a : Addr} {kvs : List (List Key × V)} (e : H a = some (.dT kvs)) : TyOf K H (.ref a) (.type "dict")
 | ins {a C dx : Addr} {fs : List (Str × V)} (e : H a = some (.ins C dx fs)) (cl : Cls K C) (ha : PySem.W.findIn K (.ref C) "__class__" = some (some (.builtin "object.__class__")))
   (hn : PySem.W.specialIn K (.builtin "object.__class__") "__get__" = some (some (.builtin "getset_descriptor.__get__"))) (htk : PySem.W.takesIn K (.builtin "object.__class__") = some true)
   (hm : PySem.W.mroIn K C (.type "object") = some true) : TyOf K H (.ref a) (.ref C)
theorem isinst_ok {x : V} {u t : Value} (I : Inv X pins σ H s) (rx : RelV x u) (ty : TyOf X.K H x t) (e : PySem.W.kitOne X.K t c = some b) (h : ∀ tk, Q (.bool b) { s with toks := tk }) :
  wpAny (model X.prog X.w) A (call (.builtin "isinstance") [u, c]) Q E s := by
 cases ty with
 | non => cases (show u = Value.none from rx); exact PySem.W.kia_one PySem.W.kitx_none I.kIn True.intro e (fun z => nomatch z) h
 | bl y => cases (show u = Value.bool y from rx); exact PySem.W.kia_one PySem.W.kitx_bool I.kIn True.intro e (fun z => nomatch z) h
 | int i => obtain ⟨t, q⟩ := (show ∃ t, u = Value.int i t from rx); cases q; exact PySem.W.kia_one PySem.W.kitx_int I.kIn True.intro e (fun z => nomatch z) h
 | str y => obtain ⟨t, q⟩ := (show ∃ t, u = Value.str y t from rx); cases q; exact PySem.W.kia_one PySem.W.kitx_str I.kIn True.intro e (fun z => nomatch z) h
 | flt y => obtain ⟨t, q⟩ := (show ∃ t, u = Value.float y t from rx); cases q; exact PySem.W.kia_one PySem.W.kitx_float I.kIn True.intro e (fun z => nomatch z) h
 | @lst a xs ea =>
  cases (show u = Value.ref a from rx)
  obtain ⟨_, _, n, _, h1⟩ := (show ObjOk X.prog X.w H s.heap a (.lst xs) from I.hok a _ ea)
  exact PySem.W.kia_one PySem.W.kitx_list I.kIn ⟨_, h1, rfl⟩ e (fun z => nomatch z) h
 | @frz a ob xs ea =>
  cases (show u = Value.ref a from rx)
  obtain ⟨_, _, _, n, _, h1⟩ := (show ObjOk X.prog X.w H s.heap a (.frz ob (.lst xs)) from I.hok a _ ea)
  exact PySem.W.kia_one PySem.W.kitx_list I.kIn ⟨_, h1, rfl⟩ e (fun z => nomatch z) h
 | @tup a xs ea =>
  cases (show u = Value.ref a from rx)
  obtain ⟨_, _, _, p⟩ := (show ObjOk X.prog X.w H s.heap a (.tup xs) from I.hok a _ ea)
  obtain ⟨o, h1, h2, _⟩ := p
  exact PySem.W.kia_one PySem.W.kitx_tuple I.kIn ⟨o, h1, h2⟩ e (fun z => nomatch z) h
 | @dK a kvs ea =>
  cases (show u = Value.ref a from rx)
  obtain ⟨_, _, vs, _, p⟩ := (show ObjOk X.prog X.w H s.heap a (.dK kvs) from I.hok a _ ea)
  obtain ⟨o, es, ep, h1, h2, _⟩ := p
  exact PySem.W.kia_one PySem.W.kitx_dict I.kIn ⟨o, h1, h2.1⟩ e (fun z => nomatch z) h
 | @dT a kvs ea =>
  cases (show u = Value.ref a from rx)
  obtain ⟨_, _, xs, _, o, es, ep, h1, h2, _⟩ := (show ObjOk X.prog X.w H s.heap a (.dT kvs) from I.hok a _ ea)
  exact PySem.W.kia_one PySem.W.kitx_dict I.kIn ⟨o, h1, h2.1⟩ e (fun z => nomatch z) h
 | @ins a C dx fs ea cl ha hn htk hm =>
  cases (show u = Value.ref a from rx)
  obtain ⟨mA, O, _⟩ := ins_get I.hok ea
  obtain ⟨od, J, _⟩ := O.look
  exact PySem.W.kia_one (PySem.W.kitx_own (cl.get _) cl.hd ha hn htk hm) I.kIn J e (fun z => nomatch z) h
end
end L2
namespace L2
open PySem PySem.Spec PyProof.Rows
structure Room (k : Nat) (A : Around) : Prop where
 hd : A.handled = none
 dp : A.depth + 3 * k + 5 < recursionLimit
 un : A.units + 16 * k + 200 < cLine
theorem Room.mono {j k : Nat} {A : Around} (r : Room k A) (h : j ≤ k) : Room j A := ⟨r.hd, by have := r.dp; omega, by have := r.un; omega⟩
theorem Room.deeper {k : Nat} {A : Around} (r : Room (k + 1) A) (env : Env) : Room k (A.deeper env) :=
 ⟨r.hd, by have := r.dp; show A.depth + 1 + 3 * k + 5 < _; omega, by have := r.un; show A.units + 3 + 16 * k + 200 < _; omega⟩
theorem Room.depth {k : Nat} {A : Around} (r : Room k A) : A.depth < recursionLimit := by have := r.dp; omega
theorem Room.units {k : Nat} {A : Around} (r : Room k A) : A.units + 64 < cLine := by have := r.un; omega
noncomputable def tNil : TA := fun _ H Q => Q [] H
noncomputable def tCons (ta : TE) (tr : TA) : TA := fun σ H Q => ta σ H fun x H1 => tr σ H1 fun xs H2 => Q (x :: xs) H2
section
variable {X : Cx} {e : Expr} {es : List Expr} {te : TE} {t : TA} {pos : Pos}
theorem pa_nil : PA X [] tNil := fun _ _ _ _ H Q I h => Calls.spliced_nil ⟨[], H, I, .nil, h⟩
theorem pa_cons (ha : PE X e te) (hr : PA X es t) (hs : starEach (e :: es) X.env = (false, eval e X.env) :: starEach es X.env := by rfl) : PA X (e :: es) (tCons te t) := by
 intro pos pins s σ H Q I h
 rw [hs]
 show wpAny _ _ (spliced ((false, eval e X.env) :: backTo pos (starEach es X.env))) _ _ s
 refine Calls.spliced_cons (thn (ha pins s σ H _ I h) fun u s1 ⟨x, H1, I1, r1, q1⟩ => ?_)
 exact thn (hr pos pins s1 σ H1 _ I1 q1) fun us s2 ⟨xs, H2, I2, r2, q2⟩ => ⟨x :: xs, H2, I2, .cons r1 r2, q2⟩
noncomputable def tTup (t : TA) : TE := fun σ H Q => t σ H fun xs H1 => xs.length ≤ sizeLine ∧ ∀ p, H1 p = none → Q (.ref p) (upd H1 p (.tup xs))
noncomputable def tLst (t : TA) : TE := fun σ H Q => t σ H fun xs H1 => xs.length ≤ sizeLine ∧ ∀ p, H1 p = none → Q (.ref p) (upd H1 p (.lst xs))
theorem pe_tup {x1} (h : PA X es t) : PE X (.Tuple es x1 pos) (tTup t) := by
 intro pins s σ H Q I hq
 refine wpAny_Tuple_spliced (thn (h pos pins s σ H _ I hq) fun us s1 ⟨xs, H1, I1, r, z, q⟩ => ⟨by rw [← r.length]; exact z, ?_⟩)
 have hf : H1 s1.heap.objs.size = none := I1.hok.fresh (Nat.le_refl _)
 refine ⟨.ref s1.heap.objs.size, upd H1 s1.heap.objs.size (.tup xs), I1.laid (t' := s1.toks) (fun b u e => Heap.get?_push_of_some _ e) (Nat.le_refl _) ?_, rfl, q _ hf⟩
 exact ⟨z, us, r, ⟨_, Heap.get?_push_size _ rfl, rfl, _, rfl⟩⟩
theorem pe_lst (h : PA X es t) : PE X (.List es pos) (tLst t) := by
 intro pins s σ H Q I hq
 refine wpAny_List_spliced (thn (h pos pins s σ H _ I hq) fun us s1 ⟨xs, H1, I1, r, z, q⟩ => ⟨by rw [← r.length]; exact z, ?_⟩)
 have hf : H1 s1.heap.objs.size = none := I1.hok.fresh (Nat.le_refl _)
 refine ⟨.ref s1.heap.objs.size, upd H1 s1.heap.objs.size (.lst xs), I1.laid (t' := s1.toks) (fun b u e => Heap.get?_push_of_some _ e) (Nat.le_refl _) ?_, rfl, q _ hf⟩
 exact ⟨z, us, 0, r, Heap.get?_push_size _ rfl⟩
end
noncomputable abbrev Sp := List V → Hp → VK → XK → Prop
noncomputable abbrev CXT := List Env → Hp → Shared → XK → Value → Shared → Prop
structure Env0 (P : Program) (w : World) (K : PySem.W.Frag) (mg : Str → Option Value) (base : Heap) (A : Around) (outer : List Env) (s : Shared) (H : Hp) : Prop where
 frames : A.frames = some outer
 mod : Mod K mg base
 bs : ∀ b o, base.get? b = some o → s.heap.get? b = some o ∧ H b = none
 bsz : base.objs.size ≤ s.heap.objs.size
 funs : s.heap.FunFrames base outer
 frf : ∀ b ∈ frs outer, H b = none
 hok : HOk P w H s.heap
 bare : AllBare s.gens
noncomputable def CE (outer : List Env) (P : Program) (w : World) (H : Hp) (s : Shared) (Q : VK) (u : Value) (s' : Shared) : Prop :=
 ∃ v H', s'.os = s.os ∧ AllBare s'.gens ∧ Un (frs outer) [] H H' s.heap s'.heap ∧ HOk P w H' s'.heap ∧ RelV v u ∧ Q v H'
noncomputable def CR (CX : CXT) (outer : List Env) (P : Program) (w : World) (H : Hp) (s : Shared) (Q : VK) (E : XK) (r : Result) (s' : Shared) : Prop :=
 match r with
 | .ok (.ret u) => CE outer P w H s Q u s'
 | .ok _ => False
 | .error e => CX outer H s E e s'
structure FnOk (P : Program) (w : World) (K : PySem.W.Frag) (mg : Str → Option Value) (base : Heap) (CX : CXT) (k : Nat) (f : Addr) (fd : FuncData) (ps : List Str) (sp : Sp) : Prop where
 len : ∀ vs H Q E, sp vs H Q E → vs.length = ps.length
 run : ∀ (A : Around) (outer : List Env) (s : Shared) (H : Hp) (args : Args) (us : List Value) (vs : List V) (Q : VK) (E : XK), Room k A → Env0 P w K mg base A outer s H → BindsTo s fd args (ps.zip us) → Vals vs us → sp vs H Q E →
  codeAny (model P w) A (.call (.ref f) args) (CR CX outer P w H s Q E) s
theorem FnOk.mono {P : Program} {w : World} {K : PySem.W.Frag} {mg : Str → Option Value} {base : Heap} {CX : CXT} {j k : Nat} {f : Addr} {fd : FuncData} {ps : List Str} {sp : Sp} (F : FnOk P w K mg base CX j f fd ps sp) (h : j ≤ k) :
  FnOk P w K mg base CX k f fd ps sp := ⟨F.len, fun A outer s H args us vs Q E hr => F.run A outer s H args us vs Q E (hr.mono h)⟩
section
variable {X : Cx} {pins : List (Addr × Obj)} {σ : St} {H : Hp} {s s' : Shared}
theorem Inv.env0 (I : Inv X pins σ H s) : Env0 X.prog X.w X.K X.mg X.base X.A X.stack s H :=
 ⟨I.ok.frames, I.ok.mod, I.bs, Nat.le_trans I.ok.bsz I.sz, I.stack, I.stkFree, I.hok, I.bare⟩
theorem Inv.after {Q : VK} {u : Value} (I : Inv X pins σ H s) (h : CE X.stack X.prog X.w H s Q u s') : EP X pins σ Q u s' := by
 obtain ⟨v, H', os, bare, un, hok, r, q⟩ := h
 obtain ⟨hh, g, d, t, os'⟩ := s'
 obtain rfl : os' = s.os := os
 exact ⟨v, H', I.call (h' := hh) (g' := g) (d' := d) (t' := t) (ch := []) un hok bare (fun b z => absurd z (by simp)), r, q⟩
end
noncomputable def tCall (sp : Sp) (dvs : List V) (E : XK) (t : TA) : TE := fun σ H Q => t σ H fun vs H1 => sp (vs ++ dvs) H1 Q E
noncomputable def Binds (K : PySem.W.Frag) (fd : FuncData) (ps : List Str) (ds : List Value) : Prop :=
 ∀ (s : Shared) (us : List Value), K.In s.heap → (us ++ ds).length = ps.length → BindsTo s fd ⟨us, []⟩ (ps.zip (us ++ ds))
theorem Binds.all {K : PySem.W.Frag} {fd : FuncData} {ps : List Str} (h : ∀ us : List Value, us.length = ps.length → bindArgs fd ⟨us, []⟩ = pure (ps.zip us)) : Binds K fd ps [] := fun s us _ hl => by
 rw [List.append_nil] at hl ⊢
 exact .of_eq (h us hl)
noncomputable def Passes (CX : CXT) (X : Cx) (E : XK) : Prop := ∀ (pins : List (Addr × Obj)) (σ : St) (H : Hp) (s : Shared) (e : Value) (s' : Shared), Inv X pins σ H s → CX X.stack H s E e s' → X.xe e s'
section
variable {X : Cx} {CX : CXT} {k : Nat} {f C : Addr} {fd : FuncData} {ps : List Str} {sp : Sp} {dvs : List V} {ds : List Value} {E : XK} {x m : Str} {p pos apos : Pos} {e o : Expr} {es : List Expr} {ta : TE} {t : TA}
theorem run_fn {pins : List (Addr × Obj)} {σ : St} {H : Hp} {s : Shared} {Q : VK} {us : List Value} {vs : List V} (F : FnOk X.prog X.w X.K X.mg X.base CX k f fd ps sp) (hr : Room k X.A) (hb : Binds X.K fd ps ds) (hd : Vals dvs ds) (hx : Passes CX X E)
  (I : Inv X pins σ H s) (r : Vals vs us) (h : sp (vs ++ dvs) H Q E) : wpAny (model X.prog X.w) X.A (call (.ref f) us) (EP X pins σ Q) X.xe s := by
 have r2 : Vals (vs ++ dvs) (us ++ ds) := r.append hd
 have hl : (us ++ ds).length = ps.length := by rw [← r2.length]; exact F.len _ _ _ _ h
 refine wpAny_call (codeAny_mono (F.run X.A X.stack s H ⟨us, []⟩ (us ++ ds) (vs ++ dvs) Q E hr I.env0 (hb s us I.kIn hl) r2 h) fun r s' hq => ?_)
 cases r with
 | error e => exact hx pins σ H s e s' I hq
 | ok fl =>
  cases fl with
  | ret u => exact I.after hq
  | next => exact False.elim hq
  | brk => exact False.elim hq
  | cont => exact False.elim hq
theorem pe_call (F : FnOk X.prog X.w X.K X.mg X.base CX k f fd ps sp) (hr : Room k X.A) (hg : Gl X x) (hm : X.mg x = some (.ref f)) (hk : PySem.W.keepIn X.K (.ref f) = true) (hb : Binds X.K fd ps ds) (hd : Vals dvs ds) (hx : Passes CX X E)
  (ha : PA X (e :: es) t) (hdb : (x == ("__debug__" : Str)) = false := by decide) (he : starEach (e :: es) X.env = (false, eval e X.env) :: starEach es X.env := by rfl) (hpl : (backTo pos (starEach es X.env)).any (·.1) = false := by rfl) :
  PE X (.Call (.Name x p) (e :: es) [] pos) (tCall sp dvs E t) := by
 intro pins s σ H Q I h
 refine wpAny_Call_Name_kw (ld_glob I hg hm ?_ hdb)
 refine PySem.W.callWith_K (h₀ := X.base) I.ok.mod.kin hk (thn (ha pos pins s σ H _ I h) fun us s1 ⟨vs, H1, I1, r, q⟩ => ⟨I1.kIn, ?_⟩) he hpl
 exact run_fn F hr hb hd hx I1 r q
structure Mk (K : PySem.W.Frag) (C f : Addr) : Prop where
 makes : PySem.W.makesIn K C = true
 init : PySem.W.findIn K (.ref C) "__init__" = some (some (.ref f))
 fn : PySem.W.isFn K (.ref f) = true
 kp : PySem.W.keepIn K (.ref C) = true
end
section
variable {X : Cx} {CX : CXT} {k : Nat} {f C : Addr} {fd : FuncData} {ps ks : List Str} {sp : Sp} {E : XK} {x m : Str} {p pos apos kpos : Pos} {e o : Expr} {es : List Expr} {kws : List Keyword} {te ta : TE} {t tk : TA} {nm : Option Str}
structure KBinds (K : PySem.W.Frag) (fd : FuncData) (ps ks : List Str) (g : List Value → List Value → List Value) (gV : List V → List V → List V) : Prop where
 to : ∀ (s : Shared) (us ws : List Value), K.In s.heap → (g us ws).length = ps.length → BindsTo s fd ⟨us, ks.zip ws⟩ (ps.zip (g us ws))
 rel : ∀ {vs : List V} {us : List Value} {zs : List V} {ws : List Value}, Vals vs us → Vals zs ws → Vals (gV vs zs) (g us ws)
variable {g : List Value → List Value → List Value} {gV : List V → List V → List V}
end
structure FnScope (N P : List Str) (sc : Scope) : Prop where
 kind : sc.kind = .function
 co : sc.isCoroutine = false
 gen : sc.isGenerator = false
 nd : N.Nodup
 pre : N.take P.length = P
 par : ∀ x ∈ P, sc.names.lookup x = some .local ∨ sc.names.lookup x = some .cell
 nofree : ∀ y ∈ sc.names, y.2 ≠ .free
theorem bindL_out {kindOf : Str → Option NameKind} {x : Str} : ∀ {binds : List (Str × Value)} {m : Str → Option Value}, (∀ v, (x, v) ∉ binds) → bindL kindOf binds m x = m x
 | [], _, _ => rfl
 | (n, v) :: r, m, h => by
  unfold bindL
  rw [bindL_out fun w hw => h w (List.mem_cons_of_mem _ hw)]
  split
  ·have : x ≠ n := by rintro rfl; exact h v List.mem_cons_self
   simp [this]
  ·rfl
theorem bindC_out {kindOf : Str → Option NameKind} {x : Str} : ∀ {binds : List (Str × Value)} {m : Str → Option Value}, (∀ v, (x, v) ∉ binds) → bindC kindOf binds m x = m x
 | [], _, _ => rfl
 | (n, v) :: r, m, h => by
  unfold bindC
  rw [bindC_out fun w hw => h w (List.mem_cons_of_mem _ hw)]
  split
  ·rfl
  ·have : x ≠ n := by rintro rfl; exact h v List.mem_cons_self
   simp [this]
theorem bindL_get {kindOf : Str → Option NameKind} {x : Str} {v : Value} : ∀ {P : List Str} {vs : List Value} {i : Nat} {m : Str → Option Value}, P.Nodup → P[i]? = some x → vs[i]? = some v → kindOf x = some .local →
  bindL kindOf (P.zip vs) m x = some v
 | [], _, _, _, _, h, _, _ => by simp at h
 | _ :: _, [], _, _, _, _, h, _ => by simp at h
 | p :: P, w :: vs, 0, m, nd, h1, h2, hk => by
  simp at h1 h2; subst h1; subst h2
  show bindL kindOf ((p, w) :: P.zip vs) m p = _
  unfold bindL
  rw [bindL_out fun v hv => (List.nodup_cons.mp nd).1 (List.of_mem_zip hv).1, if_pos hk]
  simp
 | p :: P, w :: vs, i + 1, m, nd, h1, h2, hk => by
  show bindL kindOf ((p, w) :: P.zip vs) m x = _
  unfold bindL
  exact bindL_get (i := i) (List.nodup_cons.mp nd).2 (by simpa using h1) (by simpa using h2) hk
theorem bindC_get {kindOf : Str → Option NameKind} {x : Str} {v : Value} : ∀ {P : List Str} {vs : List Value} {i : Nat} {m : Str → Option Value}, P.Nodup → P[i]? = some x → vs[i]? = some v → kindOf x ≠ some .local →
  bindC kindOf (P.zip vs) m x = some v
 | [], _, _, _, _, h, _, _ => by simp at h
 | _ :: _, [], _, _, _, _, h, _ => by simp at h
 | p :: P, w :: vs, 0, m, nd, h1, h2, hk => by
  simp at h1 h2; subst h1; subst h2
  show bindC kindOf ((p, w) :: P.zip vs) m p = _
  unfold bindC
  rw [bindC_out fun v hv => (List.nodup_cons.mp nd).1 (List.of_mem_zip hv).1, if_neg hk]
  simp
 | p :: P, w :: vs, i + 1, m, nd, h1, h2, hk => by
  show bindC kindOf ((p, w) :: P.zip vs) m x = _
  unfold bindC
  exact bindC_get (i := i) (List.nodup_cons.mp nd).2 (by simpa using h1) (by simpa using h2) hk
noncomputable def start (N : List Str) (vs : List V) : St := vs.map some ++ List.replicate (N.length - vs.length) none
noncomputable def cxOf (CX : CXT) (P : Program) (w : World) (K : PySem.W.Frag) (mg : Str → Option Value) (base : Heap) (N : List Str) (qual : Str) (scope : Scope) (f : Addr) (cd : Value) (A : Around) (outer : List Env) (s : Shared) (H : Hp) (E : XK) : Cx where
 prog := P
 w := w
 K := K
 mg := mg
 base := base
 A := A.deeper (envOfC qual scope s.heap.objs.size f cd)
 N := N
 s₀ := s
 H₀ := H
 env := envOfC qual scope s.heap.objs.size f cd
 outer := outer
 stack := envOfC qual scope s.heap.objs.size f cd :: outer
 ex := []
 calm := true
 fn := fun _ => true
 pn := []
 xe := fun e s' => wpAny (model P w) (A.deeper (envOfC qual scope s.heap.objs.size f cd)) (leaving (envOfC qual scope s.heap.objs.size f cd) e) (fun _ s'' => CX outer H s E e s'') (fun e' s'' => CX outer H s E e' s'') s'
theorem cell_has {sc : Scope} {n : Nat} {x : Str} (h : sc.names.lookup x = some .cell) : ∃ c, (cellsFrom n sc.names []).lookup x = some c := by
 have q := PySem.W.cellsFrom_some sc.names n [] (.inl h)
 exact Option.isSome_iff_exists.mp q
theorem inv_start {CX : CXT} {P : Program} {w : World} {K : PySem.W.Frag} {mg : Str → Option Value} {base : Heap} {N ps : List Str} {qual : Str} {scope : Scope} {f : Addr} {cd : Value} {A : Around} {outer : List Env} {s s1 : Shared} {H : Hp} {E : XK} {us : List Value} {vs : List V}
  (S : FnScope N ps scope) (hd : A.handled = none) (e0 : Env0 P w K mg base A outer s H) (hl : vs.length = ps.length) (r : Vals vs us)
  (x : InCallC s s.heap.objs.size (bindL (envOfC qual scope s.heap.objs.size f cd).kindOf (ps.zip us) fun _ => none) (cellsFrom (s.heap.objs.size + 1) scope.names []) (bindC (envOfC qual scope s.heap.objs.size f cd).kindOf (ps.zip us) fun _ => none) s1) :
  Inv (cxOf CX P w K mg base N qual scope f cd A outer s H E) [] (start N vs) H s1 := by
 have hpl : ps.length ≤ N.length := by have := congrArg List.length S.pre; rw [List.length_take] at this; omega
 obtain ⟨h1, tk, rfl, hk⟩ := x.done
 have noA : ∀ b : Addr, b ∉ (cxOf CX P w K mg base N qual scope f cd A outer s H E).ex := fun b z => absurd (show b ∈ ([] : List Addr) from z) (by simp)
 refine ⟨⟨e0.mod, S.kind, rfl, rfl, Nat.le_refl _, fun y z c h1 h2 => ?_, fun y hy => ?_, fun y c _ h => ?_, fun _ => hd, Around.frames_deeper e0.frames, .inr ⟨rfl, rfl⟩, fun b z => absurd z (noA b), e0.bs, e0.bsz, fun b _ _ => noA b, fun b z => absurd z (noA b), e0.funs, e0.frf⟩,
  rfl, e0.bare, Un.kept hk, ⟨_, x.toInCall.ns, fun i y v h1 h2 h3 => ?_⟩, fun y c h => ⟨_, x.cell y c h⟩, e0.hok.fresh (Nat.le_refl _), fun y c h => ?_, fun p hp => absurd (show p ∈ ([] : List (Addr × Obj)) from hp) (by simp), e0.hok.kept hk, ?_⟩
 ·exact name_of_addr x.apart (PySem.mem_of_lookup h1) (PySem.mem_of_lookup h2)
 ·have hy : scope.names.lookup y = some .cell ∨ scope.names.lookup y = some .free := hy
  rcases hy with hy | hy
  ·exact cell_has hy
  ·exact absurd rfl (S.nofree _ (PySem.mem_of_lookup hy))
 ·exact Nat.le_of_lt (x.above y c (PySem.mem_of_lookup h))
 ·have hi : i < vs.length := by
   unfold start at h2
   by_cases hi : i < vs.length
   ·exact hi
   ·rw [List.getElem?_append_right (by simpa using hi)] at h2
    rw [List.getElem?_replicate] at h2
    split at h2 <;> cases h2
  have ha : vs[i]? = some v := by
   unfold start at h2
   rw [List.getElem?_append_left (by simpa using hi), List.getElem?_map] at h2
   cases e : vs[i]? with
   | none => rw [e] at h2; cases h2
   | some a => rw [e] at h2; cases h2; rfl
  obtain ⟨u, hu, rv⟩ := r.get ha
  have hp : ps[i]? = some y := by
   rw [← S.pre, List.getElem?_take_of_lt (by omega)]; exact h1
  have ndP : ps.Nodup := by rw [← S.pre]; exact S.nd.sublist (List.take_sublist _ _)
  refine ⟨u, rv, ?_⟩
  rcases S.par y (List.mem_of_getElem? hp) with k | k
  ·exact .inl ⟨k, bindL_get ndP hp hu k⟩
  ·obtain ⟨c, e⟩ := cell_has (n := s.heap.objs.size + 1) k
   refine .inr ⟨.inl k, c, e, ?_⟩
   have q := x.cell y c e
   rw [bindC_get ndP hp hu (by show scope.names.lookup y ≠ _; rw [k]; decide)] at q
   exact q
 ·exact e0.hok.fresh (Nat.le_of_lt (x.above y c (PySem.mem_of_lookup h)))
 ·unfold start
  show _ = N.length
  rw [List.length_append, List.length_map, List.length_replicate]
  omega
theorem fn_of {CX : CXT} {P : Program} {w : World} {K : PySem.W.Frag} {mg : Str → Option Value} {base : Heap} {k : Nat} {f : Addr} {name qual : Str} {params : Arguments} {body : List Stmt} {scope : Scope} {dV kV doc pm cdv ct oc : Value} {an od : Option Addr}
  {osl : Array (Option Value)} {N ps : List Str} {sp : Sp} (lk : K.lookup f = some ⟨oc, od, .func (PySem.W.fnOf name qual params body scope dV kV doc pm an cdv ct), osl⟩) (hcd : PySem.W.codeIn K cdv qual = true) (S : FnScope N ps scope)
  (len : ∀ vs H Q E, sp vs H Q E → vs.length = ps.length)
  (hbody : ∀ (A : Around) (outer : List Env) (s : Shared) (H : Hp) (vs : List V) (Q : VK) (E : XK), Room k (A.deeper (envOfC qual scope s.heap.objs.size f cdv)) → sp vs H Q E →
   ∃ t, PSs (cxOf CX P w K mg base N qual scope f cdv A outer s H E) body t ∧ t { nx := fun _ H' => Q .non H', rt := Q } (start N vs) H) :
  FnOk P w K mg base CX (k + 1) f (PySem.W.fnOf name qual params body scope dV kV doc pm an cdv ct) ps sp := by
 refine ⟨len, fun A outer s H args us vs Q E hr e0 hb r hsp => ?_⟩
 have hl := len _ _ _ _ hsp
 have KX : K.In s.heap := e0.mod.kin.keeps fun b o e => (e0.bs b o e).1
 have lim : s.heap.NoLimit := e0.mod.nolimit.keeps fun b o e => (e0.bs b o e).1
 have hkind : ∀ y ∈ ps.zip us, scope.names.lookup y.1 = some .local ∨ (scope.names.lookup y.1 = some .cell ∧ ((cellsFrom (s.heap.objs.size + 1) scope.names []).lookup y.1).isSome = true) := fun ⟨n, v⟩ hy => by
  rcases S.par n (List.of_mem_zip hy).1 with q | q
  ·exact .inl q
  ·exact .inr ⟨q, PySem.W.cellsFrom_some _ _ _ (.inl q)⟩
 refine codeAny_call_function hr.depth (KX _ _ lk) rfl S.co S.gen rfl (PySem.W.codeRec_of KX hcd) (hb _ _ _ _ ?_)
 refine wpAny_newFunctionEnv_cells S.kind hkind fun env he s1 x => ?_
 subst he
 refine ⟨lim.keeps x.toInCall.keep, codeAny_func ?_⟩
 obtain ⟨t, ht, hq⟩ := hbody A outer s H vs Q E (hr.deeper _) hsp
 have I : Inv (cxOf CX P w K mg base N qual scope f cdv A outer s H E) [] (start N vs) H s1 := inv_start S hr.hd e0 hl r x
 refine wpAny_mono (ht [] s1 (start N vs) H _ I hq) (fun fl s' hs => ?_) fun e s' hs => hs
 have fin : ∀ {σ' : St} {H' : Hp} {v : V} {u : Value}, Inv (cxOf CX P w K mg base N qual scope f cdv A outer s H E) [] σ' H' s' → RelV v u → Q v H' → CE outer P w H s Q u s' :=
  fun {σ' H' v u} J rv q => ⟨v, H', J.os, J.bare, J.base, J.hok, rv, q⟩
 cases fl with
 | ret u =>
  obtain ⟨v, σ', H', J, rv, q⟩ := hs
  exact fin J rv q
 | next =>
  obtain ⟨σ', H', J, q⟩ := hs
  exact fin (v := V.non) (u := Value.none) J rfl q
 | brk =>
  obtain ⟨_, _, _, q⟩ := hs
  exact False.elim q
 | cont =>
  obtain ⟨_, _, _, q⟩ := hs
  exact False.elim q
end L2
namespace L2
open PySem PySem.Spec PyProof.Rows
section
variable {X : Cx} {x : Str} {p pos : Pos} {e : Expr} {es : List Expr} {t : TA} {id T : String} {r : List V → Hp → VK → Prop}
noncomputable def tCB (r : List V → Hp → VK → Prop) (t : TA) : TE := fun σ H Q => t σ H fun vs H1 => r vs H1 Q
theorem pe_callB (hc : CallR X (.builtin id) r) (hg : Gl X x) (hm : X.mg x = none) (hv : bootBuiltins x = some (.builtin id)) (ha : PA X (e :: es) t) (hn : x ≠ "__name__" := by decide) (hdb : (x == ("__debug__" : Str)) = false := by decide)
  (he : starEach (e :: es) X.env = (false, eval e X.env) :: starEach es X.env := by rfl) (hpl : (backTo pos (starEach es X.env)).any (·.1) = false := by rfl) : PE X (.Call (.Name x p) (e :: es) [] pos) (tCB r t) := by
 intro pins s σ H Q I h
 refine wpAny_Call_Name_kw (ld_blt I hg hm hv ?_ hn hdb)
 exact PyProof.Rows.callWith_builtin1 (thn (ha pos pins s σ H _ I h) fun us s1 ⟨vs, H1, I1, r1, q1⟩ => hc pins s1 σ H1 vs us Q I1 r1 q1) he hpl
theorem pe_callTy (hc : CallR X (.type T) r) (hg : Gl X x) (hm : X.mg x = none) (hv : bootBuiltins x = some (.type T)) (ha : PA X (e :: es) t) (hn : x ≠ "__name__" := by decide) (hdb : (x == ("__debug__" : Str)) = false := by decide)
  (he : starEach (e :: es) X.env = (false, eval e X.env) :: starEach es X.env := by rfl) (hpl : (backTo pos (starEach es X.env)).any (·.1) = false := by rfl) : PE X (.Call (.Name x p) (e :: es) [] pos) (tCB r t) := by
 intro pins s σ H Q I h
 refine wpAny_Call_Name_kw (ld_blt I hg hm hv ?_ hn hdb)
 exact PyProof.Rows.callWith_type1 (thn (ha pos pins s σ H _ I h) fun us s1 ⟨vs, H1, I1, r1, q1⟩ => hc pins s1 σ H1 vs us Q I1 r1 q1) he hpl
end
end L2
namespace HT
open PySem PyProof.Rows
section
open PySem.SeqAt
open PySem.AutoSeq1 (wpAny_loadPart')
open PySem.MeetsSeq PySem.MeetsSeq2 PySem.MeetsSeq3
end
section
variable {prog : Program} {w : World} {A : Around} {E : Value → Shared → Prop} {s : Shared}
theorem cat_tup {t b : Addr} {vs ws : List Value} {Q : Value → Shared → Prop} (ht : IsTup s.heap t vs.toArray) (hb : IsTup s.heap b ws.toArray) (hv : vs ≠ [])
  (h1 : ws = [] → Q (.ref t) s) (h2 : ws ≠ [] → Q (.ref s.heap.objs.size) { s with heap := s.heap.push { cls := .type "tuple", data := .seq (vs ++ ws).toArray } })
  (hsz : vs.length + ws.length ≤ sizeLine) : wpAny (model prog w) A (binaryOp .Add (.ref t) (.ref b)) Q E s := by
 obtain ⟨⟨cls, dd, data, sl⟩, ho, hc, n, hd⟩ := id ht
 obtain ⟨⟨cls2, dd2, data2, sl2⟩, ho2, hc2, n2, hd2⟩ := id hb
 simp only at hc hd hc2 hd2
 subst hc hd hc2 hd2
 have e : vs.toArray ++ ws.toArray = (vs ++ ws).toArray := by simp
 by_cases hw : ws = []
 ·exact concat_meets ⟨_, ho, rfl⟩ ⟨_, ho2, rfl⟩ noFill_tuple_add seq_tuple_add PySem.F.slot_tuple_add PySem.F.entry_tuple_add (PySem.F.args_tuple_add_2 _ _)
   (tuple_addW1 t b vs.toArray ws.toArray n n2 dd dd2 sl sl2 (by simpa using hv) (by simp [hw])) ⟨ho, ho2, h1 hw⟩
 ·refine concat_meets ⟨_, ho, rfl⟩ ⟨_, ho2, rfl⟩ noFill_tuple_add seq_tuple_add PySem.F.slot_tuple_add PySem.F.entry_tuple_add (PySem.F.args_tuple_add_2 _ _)
   (tuple_addW2 t b vs.toArray ws.toArray n n2 dd dd2 sl sl2 (by simpa using hv) (by simpa using hw) (by rw [List.size_toArray, List.size_toArray]; exact hsz)) ⟨ho, ho2, ?_⟩
  rw [e]
  exact h2 hw
noncomputable def sIx (n d : Nat) : Option Int → Nat
 | none => d
 | some v => if v < 0 then (v + (n : Int)).toNat else min v.toNat n
theorem sIx_nat (n d k : Nat) : sIx n d (some (k : Int)) = min k n := by
 show (if (k : Int) < 0 then ((k : Int) + (n : Int)).toNat else min (k : Int).toNat n) = min k n
 rw [if_neg (by omega), Int.toNat_natCast]
theorem sIx_le (n d : Nat) (hd : d ≤ n) (o : Option Int) : sIx n d o ≤ n := by
 cases o with
 | none => exact hd
 | some v =>
  show (if v < 0 then (v + (n : Int)).toNat else min v.toNat n) ≤ n
  by_cases hv : v < 0
  ·rw [if_pos hv]; omega
  ·rw [if_neg hv]; exact Nat.min_le_right _ _
theorem clip_eq (v : Int) (n d : Nat) : (if v < 0 then max (v + (n : Int)) 0 else min v (n : Int)) = ((sIx n d (some v) : Nat) : Int) := by
 show (if v < 0 then max (v + (n : Int)) 0 else min v (n : Int)) = (((if v < 0 then (v + (n : Int)).toNat else min v.toNat n) : Nat) : Int)
 by_cases hv : v < 0
 ·simp only [if_pos hv]; omega
 ·simp only [if_neg hv]; omega
theorem adjust_gen (lo hi : Option Int) (n : Nat) : Builtin.Slice.sliceAdjust lo hi 1 (n : Int) = (((sIx n 0 lo : Nat) : Int), ((sIx n n hi : Nat) : Int)) := by
 have h1 : ¬ ((1 : Int) < 0) := by omega
 unfold Builtin.Slice.sliceAdjust
 simp only [h1, if_false]
 refine Prod.ext ?_ ?_
 ·cases lo with
  | none => rfl
  | some v => exact clip_eq v n 0
 ·cases hi with
  | none => rfl
  | some v => exact clip_eq v n n
theorem places_gen (i j : Nat) : Builtin.Slice.slicePlaces (i : Int) (j : Int) 1 = j - i := by
 unfold Builtin.Slice.slicePlaces
 have h1 : (1 : Int) > 0 := by omega
 simp only [h1, if_true, Int.ediv_one]
 split <;> omega
theorem slicePart_ {v : Value} {o : Option Int} {Q : Option Int → Shared → Prop} (p : IsPart v o) (h : Q o s) : wpAny (model prog w) A (Builtin.Slice.slicePartIndex v) Q E s := by
 cases p with
 | none => exact slicePart_none h
 | int i t => exact slicePart_int h
theorem sliceApplied_gen {sl : Addr} {vl vu : Value} {lo hi : Option Int} {n : Nat} {Q : Int × Int × Nat → Shared → Prop} (hs : s.heap.IsSliceOf sl vl vu .none) (pl : IsPart vl lo) (pu : IsPart vu hi)
  (h : Q (((sIx n 0 lo : Nat) : Int), 1, sIx n n hi - sIx n 0 lo) s) : wpAny (model prog w) A (Builtin.Slice.sliceApplied (.ref sl) (pure (n : Int))) Q E s := by
 obtain ⟨os, hos, hcs, hds⟩ := id hs
 unfold Builtin.Slice.sliceApplied Builtin.Slice.sliceFields
 refine wpAny_bind (wpAny_bind (wpAny_field hos hds (x := vl) rfl (wpAny_bind (wpAny_field hos hds (x := vu) rfl (wpAny_bind (wpAny_field hos hds (x := .none) rfl (wpAny_pure ?_)))))))
 refine wpAny_bind (slicePart_none ?_)
 show wpAny _ _ (if ((1 : Int) == 0) = true then _ else _) _ _ s
 rw [if_neg (by decide)]
 refine wpAny_bind (slicePart_ pl (wpAny_bind (slicePart_ pu (wpAny_bind (wpAny_pure ?_)))))
 show wpAny _ _ (match Builtin.Slice.sliceAdjust lo hi 1 (n : Int) with | (lo, hi) => pure (lo, (1 : Int), Builtin.Slice.slicePlaces lo hi 1)) _ _ s
 rw [adjust_gen lo hi n]
 show wpAny _ _ (pure (((sIx n 0 lo : Nat) : Int), (1 : Int), Builtin.Slice.slicePlaces ((sIx n 0 lo : Nat) : Int) ((sIx n n hi : Nat) : Int) 1)) _ _ s
 rw [places_gen]
 exact wpAny_pure h
theorem pick_gen (xs : Array Value) (i k : Nat) : ((List.range k).filterMap fun (m : Nat) => xs[((i : Int) + (m : Int) * 1).toNat]?).toArray = ((xs.toList.drop i).take k).toArray := by
 have e : (fun (m : Nat) => xs[((i : Int) + (m : Int) * 1).toNat]?) = fun m => xs[i + m]? := by
  funext m
  have : ((i : Int) + (m : Int) * 1).toNat = i + m := by omega
  rw [this]
 rw [e]
 have := pick_run xs i k
 rw [List.filterMap_map] at this
 have e2 : ((fun x => xs[x]?) ∘ fun x => i + x) = fun m => xs[i + m]? := rfl
 rw [e2] at this
 rw [this]
theorem getItem_tuple_cut {t sl : Addr} {items : Array Value} {vl vu : Value} {lo hi : Option Int} {Q : Value → Shared → Prop} (ht : IsTup s.heap t items) (hs : s.heap.IsSliceOf sl vl vu .none) (pl : IsPart vl lo) (pu : IsPart vu hi)
  (hw : ¬ (sIx items.size 0 lo = 0 ∧ sIx items.size items.size hi = items.size))
  (h : Q (.ref s.heap.objs.size) { s with heap := s.heap.push { cls := .type "tuple", data := .seq ((items.toList.drop (sIx items.size 0 lo)).take (sIx items.size items.size hi - sIx items.size 0 lo)).toArray } })
  (hsz : items.size ≤ sizeLine) : wpAny (model prog w) A (getItem (.ref t) (.ref sl)) Q E s := by
 have htake : sizeOk (.seq ((items.toList.drop (sIx items.size 0 lo)).take (sIx items.size items.size hi - sIx items.size 0 lo)).toArray) := by
  show ((items.toList.drop (sIx items.size 0 lo)).take (sIx items.size items.size hi - sIx items.size 0 lo)).toArray.size ≤ sizeLine
  rw [List.size_toArray, List.length_take, List.length_drop, Array.length_toList]
  omega
 have hj : sIx items.size items.size hi ≤ items.size := sIx_le _ _ (Nat.le_refl _) hi
 obtain ⟨os, hos, hcs, hds⟩ := id hs
 have hTs : s.TypeIs (.ref sl) "slice" := ⟨os, hos, hcs⟩
 unfold getItem
 try with_reducible refine wpAny_holding ?_
 first | refine wpAny_bind (wpAny_pure ?_) | skip
 refine wpAny_bind (wpAny_sequenceKey ht.typeIs (by decide) ?_)
 refine wpAny_bind (wpAny_callSpecial?_slot (name := Str.ofString "__getitem__") ht.typeIs PyProof.Rows.slot_tuple_getitem
  (wpAny_call_entry PyProof.Rows.slot_tuple_getitem ht.typeIs entry_tuple_getitem ?_ (args_tuple_getitem _ _)))
 show wpAny _ _ (Builtin.Tuple.tupleItemsOf (.ref t) >>= _) _ _ s
 refine wpAny_bind (tupleItemsOf_ ht ?_)
 refine wpAny_bind (wpAny_typeOf hTs ?_)
 rw [if_pos (by decide)]
 refine wpAny_bind (sliceApplied_gen hs pl pu ?_)
 have hno : ¬ ((((sIx items.size 0 lo : Nat) : Int) == 0 && (1 : Int) == 1 && (sIx items.size items.size hi - sIx items.size 0 lo) == items.size) = true) := by
  intro q
  rw [Bool.and_eq_true, Bool.and_eq_true] at q
  have q1 : ((sIx items.size 0 lo : Nat) : Int) = 0 := eq_of_beq q.1.1
  have q2 : sIx items.size items.size hi - sIx items.size 0 lo = items.size := eq_of_beq q.2
  exact hw ⟨by omega, by omega⟩
 show wpAny _ _ (if (((sIx items.size 0 lo : Nat) : Int) == 0 && (1 : Int) == 1 && (sIx items.size items.size hi - sIx items.size 0 lo) == items.size) = true then _ else _) _ _ s
 rw [if_neg hno, pick_gen]
 first
  | exact wpAny_bind (m := Builtin.Tuple.tupleExact _) (wpAny_newObj_type (wpAny_pure ⟨_, rfl, wpAny_pure h⟩) htake)
  | exact wpAny_bind (m := Builtin.Tuple.tupleExact _) (wpAny_newObj_type (wpAny_bind (wpAny_pure (wpAny_pure ⟨_, rfl, wpAny_pure h⟩))) htake)
  | exact wpAny_bind (wpAny_bind (m := Builtin.Tuple.tupleExact _) (wpAny_newObj_type (wpAny_pure (wpAny_pure ⟨_, rfl, wpAny_pure h⟩)) htake))
  | exact wpAny_bind (wpAny_bind (m := Builtin.Tuple.tupleExact _) (wpAny_newObj_type (wpAny_pure ⟨_, rfl, wpAny_pure h⟩) htake))
end
end HT
namespace L2
open PySem PySem.Spec PyProof.Rows
noncomputable abbrev TO := St → Hp → (Option Int → Hp → Prop) → Prop
noncomputable def PO (X : Cx) (e : Option Expr) (t : TO) : Prop :=
 ∀ (pins : List (Addr × Obj)) (s : Shared) (σ : St) (H : Hp) (Q : Option Int → Hp → Prop), Inv X pins σ H s → t σ H Q →
  wpAny (model X.prog X.w) X.A (evalPart e X.env) (fun u s' => ∃ o H', Inv X pins σ H' s' ∧ IsPart u o ∧ Q o H') X.xe s
noncomputable def tNoPart : TO := fun _ H Q => Q none H
noncomputable def tPart (t : TE) : TO := fun σ H Q => t σ H fun x H1 => ∃ i, x = .int i ∧ Q (some i) H1
theorem intsAre_of {ns : List Int} : ∀ {us : List Value}, Vals (ns.map V.int) us → IntsAre us ns := by
 induction ns with
 | nil => intro us r; rw [List.map_nil] at r; cases r; exact .nil
 | cons n ns ih =>
  intro us r
  rw [List.map_cons] at r
  cases r with
  | cons r1 r2 =>
   obtain ⟨t, e⟩ := r1
   subst e
   exact .cons n t (ih r2)
section
variable {X : Cx} {e : Expr} {te : TE} {lo hi : Option Expr} {tl th : TO} {pos p2 : Pos}
theorem po_none : PO X none tNoPart := by
 intro pins s σ H Q I h
 rw [evalPart_none]
 exact wpAny_pure ⟨none, H, I, .none, h⟩
theorem po_some (h : PE X e te) : PO X (some e) (tPart te) := by
 intro pins s σ H Q I hw
 rw [evalPart_some]
 refine thn (h pins s σ H _ I hw) fun u s1 ⟨x, H1, I1, r1, q1⟩ => ?_
 obtain ⟨i, rfl, q⟩ := q1
 obtain ⟨t, rfl⟩ := r1
 exact ⟨some i, H1, I1, .int i t, q⟩
noncomputable def SlR (X : Cx) (r : V → Option Int → Option Int → Hp → VK → Prop) : Prop :=
 ∀ (pins : List (Addr × Obj)) (s : Shared) (σ : St) (H : Hp) (x : V) (v vl vu : Value) (lo hi : Option Int) (sl : Addr) (Q : VK), Inv X pins σ H s → RelV x v → s.heap.IsSliceOf sl vl vu .none → IsPart vl lo → IsPart vu hi → r x lo hi H Q →
  ∃ T id, typeLookup (.type T) "__getitem__" = pure (some (.builtin id)) ∧ s.TypeIs v T ∧ wpAny (model X.prog X.w) X.A (getItem v (.ref sl)) (EP X pins σ Q) X.xe s
noncomputable def tSl (r : V → Option Int → Option Int → Hp → VK → Prop) (te : TE) (tl th : TO) : TE := fun σ H Q => te σ H fun x H1 => tl σ H1 fun l H2 => th σ H2 fun u H3 => r x l u H3 Q
theorem pe_slice {r : V → Option Int → Option Int → Hp → VK → Prop} (hr : SlR X r) (he : PE X e te) (hl : PO X lo tl) (hu : PO X hi th) : PE X (.Subscript e (.Slice lo hi none p2) pos) (tSl r te tl th) := by
 intro pins s σ H Q I h
 refine Subscript_ (thn (he pins s σ H _ I h) fun v s1 ⟨x, H1, I1, r1, q1⟩ => ?_)
 refine wpAny_Slice (thn (hl pins s1 σ H1 _ I1 q1) fun vl s2 ⟨l, H2, I2, pl, q2⟩ => thn (hu pins s2 σ H2 _ I2 q2) fun vu s3 ⟨u, H3, I3, pu, q3⟩ => ?_)
 rw [evalPart_none]
 refine wpAny_pure ?_
 have I4 : Inv X pins σ H3 { s3 with heap := s3.heap.push { cls := .type "slice", data := .fields #[vl, vu, .none] } } := I3.kept (t' := s3.toks) fun b ob q => Heap.get?_push_of_some _ q
 obtain ⟨T, id, hT, ht, hg⟩ := hr pins { s3 with heap := s3.heap.push { cls := .type "slice", data := .fields #[vl, vu, .none] } } σ H3 x v vl vu l u s3.heap.objs.size Q I4 r1 (Heap.IsSliceOf.new ..) pl pu q3
 show wpAny (model X.prog X.w) X.A (subscriptTail e (.Slice lo hi none p2) v (.ref s3.heap.objs.size)) (EP X pins σ Q) X.xe { s3 with heap := s3.heap.push { cls := .type "slice", data := .fields #[vl, vu, .none] } }
 exact tail_any (ops := [.ref s3.heap.objs.size, v]) ht hT hg (by with_unfolding_all rfl)
noncomputable def cutV (xs : List V) (lo hi : Option Int) : List V := (xs.drop (HT.sIx xs.length 0 lo)).take (HT.sIx xs.length xs.length hi - HT.sIx xs.length 0 lo)
theorem cutV_length (xs : List V) (lo hi : Option Int) : (cutV xs lo hi).length ≤ xs.length := by
 unfold cutV
 rw [List.length_take, List.length_drop]
 omega
noncomputable def rSlT (K : PySem.W.Frag) : V → Option Int → Option Int → Hp → VK → Prop := fun x lo hi H Q => ∃ a xs, x = .ref a ∧ SqT K H a xs ∧
 ¬ (HT.sIx xs.length 0 lo = 0 ∧ HT.sIx xs.length xs.length hi = xs.length) ∧ ∀ p, H p = none → Q (.ref p) (upd H p (.tup (cutV xs lo hi)))
theorem sl_tup : SlR X (rSlT X.K) := by
 intro pins s σ H x v vl vu lo hi sl Q I rx hs pl pu h
 obtain ⟨a, xs, rfl, hx, hw, q⟩ := h
 cases rx
 obtain ⟨its, r, ht, hz⟩ := I.tuple hx
 have hlen : its.toArray.size = xs.length := by rw [List.size_toArray]; exact r.length.symm
 refine ⟨"tuple", _, PyProof.Rows.slot_tuple_getitem.lookup, ht.typeIs, ?_⟩
 refine HT.getItem_tuple_cut ht hs pl pu (by rw [hlen]; exact hw) ?_ (by rw [hlen]; exact hz)
 rw [hlen]
 refine ⟨.ref s.heap.objs.size, _, I.laid (t' := s.toks) (o := .tup (cutV xs lo hi)) (fun b ob q => Heap.get?_push_of_some _ q) (Nat.le_refl _) ?_, rfl, q _ (I.hok.fresh (Nat.le_refl _))⟩
 exact ⟨Nat.le_trans (cutV_length xs lo hi) hz, _, (r.drop (HT.sIx xs.length 0 lo)).take (HT.sIx xs.length xs.length hi - HT.sIx xs.length 0 lo), IsTup.new _ _⟩
noncomputable def rCatT (K : PySem.W.Frag) : R2 := fun x y H Q => ∃ a b xs ys, x = .ref a ∧ y = .ref b ∧ SqT K H a xs ∧ SqT K H b ys ∧ xs ≠ [] ∧ xs.length + ys.length ≤ sizeLine ∧
 (ys = [] → Q (.ref a) H) ∧ (ys ≠ [] → ∀ p, H p = none → Q (.ref p) (upd H p (.tup (xs ++ ys))))
theorem Vals.nil_iff {xs : List V} {us : List Value} (r : Vals xs us) : us = [] ↔ xs = [] := by
 cases r with
 | nil => simp
 | cons _ _ => simp
theorem op_catT : OpR X (binaryOp .Add) (rCatT X.K) := by
 intro pins s σ H x y v u Q I rx ry h
 obtain ⟨a, b, xs, ys, rfl, rfl, ha, hb, hx, hz, q1, q2⟩ := h
 cases rx
 cases ry
 obtain ⟨its, r1, p1, _⟩ := I.tuple ha
 obtain ⟨its2, r2, p2, _⟩ := I.tuple hb
 refine HT.cat_tup p1 p2 (fun z => hx (r1.nil_iff.mp z)) (fun z => ⟨.ref a, H, I, rfl, q1 (r2.nil_iff.mp z)⟩) (fun z => ?_) (by rw [← r1.length, ← r2.length]; exact hz)
 refine ⟨.ref s.heap.objs.size, _, I.laid (t' := s.toks) (o := .tup (xs ++ ys)) (fun b ob q => Heap.get?_push_of_some _ q) (Nat.le_refl _) ?_, rfl, q2 (fun w => z (r2.nil_iff.mpr w)) _ (I.hok.fresh (Nat.le_refl _))⟩
 exact ⟨by rw [List.length_append]; exact hz, _, r1.append r2, IsTup.new _ _⟩
end
end L2
namespace L2
open PySem PySem.Spec PyProof.Rows
noncomputable def ixN (n : Nat) (i : Int) : Option Nat := if 0 ≤ i then (if i < n then some i.toNat else none) else if -(n : Int) ≤ i then some (i + n).toNat else none
noncomputable def atI {α : Type} (xs : List α) (i : Int) : Option α := (ixN xs.length i).bind fun j => xs[j]?
theorem ixN_seq {n : Nat} {i : Int} {j : Nat} (h : ixN n i = some j) : seqIndex? i n = some j ∧ j < n ∧ -(n : Int) ≤ i ∧ i < n := by
 unfold ixN at h
 by_cases h0 : 0 ≤ i
 ·rw [if_pos h0] at h
  by_cases h1 : i < n
  ·rw [if_pos h1] at h
   have e : i.toNat = j := Option.some.inj h
   exact ⟨by rw [seqIndex_of h0 h1, e], by omega, by omega, h1⟩
  ·rw [if_neg h1] at h; cases h
 ·rw [if_neg h0] at h
  by_cases h1 : -(n : Int) ≤ i
  ·rw [if_pos h1] at h
   have e : (i + n).toNat = j := Option.some.inj h
   exact ⟨by rw [seqIndex_neg (by omega) h1, e], by omega, h1, by omega⟩
  ·rw [if_neg h1] at h; cases h
theorem atI_get {α : Type} {xs : List α} {i : Int} {v : α} (h : atI xs i = some v) : ∃ j, seqIndex? i xs.length = some j ∧ xs[j]? = some v ∧ j < xs.length ∧ -(xs.length : Int) ≤ i ∧ i < xs.length := by
 unfold atI at h
 cases e : ixN xs.length i with
 | none => rw [e] at h; cases h
 | some j =>
  rw [e] at h
  obtain ⟨h1, h2, h3, h4⟩ := ixN_seq e
  exact ⟨j, h1, h, h2, h3, h4⟩
theorem atI_nat {α : Type} {xs : List α} {j : Nat} {v : α} (h : xs[j]? = some v) : atI xs (j : Int) = some v := by
 have hj : j < xs.length := (List.getElem?_eq_some_iff.mp h).1
 have e : ixN xs.length (j : Int) = some j := by
  unfold ixN
  rw [if_pos (by omega), if_pos (by omega)]; simp
 unfold atI; rw [e]; exact h
noncomputable def PlainIx (b : Expr) : Prop := ∀ o i, subscripted b false o i = operate [o, i] (getItem o i)
noncomputable def IxR (X : Cx) (r : R2) : Prop :=
 ∀ (value slice : Expr) (pins : List (Addr × Obj)) (s : Shared) (σ : St) (H : Hp) (x y : V) (v u : Value) (Q : VK), Inv X pins σ H s → RelV x v → RelV y u → r x y H Q →
  subscripted slice false v u = operate [v, u] (getItem v u) → wpAny (model X.prog X.w) X.A (subscriptTail value slice v u) (EP X pins σ Q) X.xe s
noncomputable def MtR (X : Cx) (id : String) (r : V → List V → Hp → VK → Prop) : Prop :=
 ∀ (pins : List (Addr × Obj)) (s : Shared) (σ : St) (H : Hp) (x : V) (xs : List V) (v : Value) (us : List Value) (Q : VK), Inv X pins σ H s → RelV x v → Vals xs us → r x xs H Q →
  wpAny (model X.prog X.w) X.A (call (.builtin id) (v :: us)) (EP X pins σ Q) X.xe s
section
variable {X : Cx} {a b : Expr} {ta tb : TE} {pos : Pos}
theorem pe_ix {r : R2} (hr : IxR X r) (ha : PE X a ta) (hb : PE X b tb) (hs : PlainIx b) : PE X (.Subscript a b pos) (tOp r ta tb) := by
 intro pins s σ H Q I h
 exact Subscript_ (binT ha hb I h fun v u s2 x y H2 I2 rx ry q => hr a b pins s2 σ H2 x y v u Q I2 rx ry q (hs _ _))
noncomputable def rIxL (K : PySem.W.Frag) : R2 := fun x y H Q => ∃ p xs i v, x = .ref p ∧ y = .int i ∧ SqL K H p xs ∧ atI xs i = some v ∧ Q v H
noncomputable def rIxT (K : PySem.W.Frag) : R2 := fun x y H Q => ∃ p xs i v, x = .ref p ∧ y = .int i ∧ SqT K H p xs ∧ atI xs i = some v ∧ Q v H
noncomputable def rIxS : R2 := fun x y H Q => ∃ z i c, x = .str z ∧ y = .int i ∧ z.length ≤ sizeLine ∧ atI z.cps.toList i = some c ∧ Q (.str ⟨#[c]⟩) H
theorem ix_list : IxR X (rIxL X.K) := by
 intro value slice pins s σ H x y v u Q I rx ry h hs
 obtain ⟨p, xs, i, z, rfl, rfl, hq, he, q⟩ := h
 cases rx
 obtain ⟨t, rfl⟩ := ry
 obtain ⟨its, r, pl, hz⟩ := I.list hq
 obtain ⟨j, h1, h2, h3, h4, h5⟩ := atI_get he
 obtain ⟨w, ew, rw'⟩ := r.get h2
 have hl := r.length
 have hn := line63
 have fin : EP X pins σ Q w s := ⟨z, H, I, rw', q⟩
 by_cases h0 : 0 ≤ i
 ·have hj : i.toNat = j := by
   rw [seqIndex_of h0 h5] at h1
   exact Option.some.inj h1
  exact item_listR pl.isList h0 (by omega) (by rw [hj]; simpa using ew) fin hs
 ·have hj : (i + (its.toArray.size : Int)).toNat = j := by
   rw [seqIndex_neg (by omega) h4] at h1
   rw [List.size_toArray, ← hl]
   exact Option.some.inj h1
  exact subscriptTail_builtinR (x := w) pl.isList.typeIs slot_list_getitem.lookup
   (wpAny_getItem_list_neg (Q := fun r s' => r = w ∧ EP X pins σ Q r s') pl.isList (by omega) (by rw [List.size_toArray] <;> omega) (by omega) (by rw [hj]; simpa using ew) ⟨rfl, fin⟩) hs
theorem ix_tup : IxR X (rIxT X.K) := by
 intro value slice pins s σ H x y v u Q I rx ry h hs
 obtain ⟨p, xs, i, z, rfl, rfl, hq, he, q⟩ := h
 cases rx
 obtain ⟨t, rfl⟩ := ry
 obtain ⟨its, r, pl, hz⟩ := I.tuple hq
 obtain ⟨j, h1, h2, h3, h4, h5⟩ := atI_get he
 obtain ⟨w, ew, rw'⟩ := r.get h2
 have hl := r.length
 have hn := line63
 have fin : EP X pins σ Q w s := ⟨z, H, I, rw', q⟩
 exact subscriptTail_builtinR (x := w) pl.typeIs slot_tuple_getitem.lookup
  (getItem_tuple (j := j) (Q := fun r s' => r = w ∧ EP X pins σ Q r s') pl (by omega) (by omega) (by rw [List.size_toArray, ← hl]; exact h1) (by simpa using ew) ⟨rfl, fin⟩) hs
theorem ix_str : IxR X rIxS := by
 intro value slice pins s σ H x y v u Q I rx ry h hs
 obtain ⟨z, i, c, rfl, rfl, hz, he, q⟩ := h
 obtain ⟨t, rfl⟩ := rx
 obtain ⟨t', rfl⟩ := ry
 obtain ⟨j, h1, h2, h3, h4, h5⟩ := atI_get he
 have hl : z.cps.toList.length = z.length := by simp [Str.length]
 rw [hl] at h1 h4 h5
 have hn := line63
 exact tail_any (typeIs_str s z t) slot_str_getitem.lookup (getItem_str (c := c) (by
  have e1 : decide (i < -(2 ^ 63 : Int)) = false := decide_eq_false (by omega)
  have e2 : decide (i ≥ 2 ^ 63) = false := decide_eq_false (by omega)
  rw [e1, e2, Bool.or_false]) (by rw [h1]; simpa using h2) ⟨.str ⟨#[c]⟩, H, I.tok _, ⟨_, rfl⟩, q⟩) hs
theorem mapSeq_set (its : List Value) (n j : Nat) (u : Value) : Obj.mapSeq (·.setIfInBounds j u) { cls := .type "list", data := .seq its.toArray n } = { cls := .type "list", data := .seq (its.set j u).toArray n } := by
 simp [Obj.mapSeq]
theorem Inv.lst {pins : List (Addr × Obj)} {σ : St} {H : Hp} {s : Shared} {p : Addr} {xs : List V} (I : Inv X pins σ H s) (h : H p = some (.lst xs)) :
  ∃ (its : List Value) (n : Nat), Vals xs its ∧ s.heap.get? p = some { cls := .type "list", data := .seq its.toArray n } ∧ xs.length ≤ sizeLine := by
 obtain ⟨z, its, n, r, e⟩ := I.hok p _ h
 exact ⟨its, n, r, e, z⟩
theorem Inv.lstUpd {pins : List (Addr × Obj)} {σ : St} {H : Hp} {s : Shared} {p : Addr} {xs ys : List V} {its its' : List Value} {n n' : Nat} {f : Obj → Obj} (I : Inv X pins σ H s) (h : H p = some (.lst xs))
  (ho : s.heap.get? p = some { cls := .type "list", data := .seq its.toArray n }) (hf : f { cls := .type "list", data := .seq its.toArray n } = { cls := .type "list", data := .seq its'.toArray n' }) (r : Vals ys its') (hz : ys.length ≤ sizeLine) (t : Nat) :
  Inv X pins σ (upd H p (.lst ys)) { s with heap := s.heap.update p f, toks := t } := by
 have e : (s.heap.update p f).get? p = some { cls := .type "list", data := .seq its'.toArray n' } := by
  rw [Heap.get?_update_self f ho (by rw [hf] <;> rfl), hf]
 refine I.write (x := p) (e := p) (by rw [h]; trivial) (.inl rfl) (fun b u hb q => (Heap.get?_update_other _ _ (Ne.symm hb)).trans q) ⟨_, e⟩ ?_
 exact ⟨hz, its', n', r, e⟩
noncomputable def rSetL : V → V → V → Hp → (Hp → Prop) → Prop := fun o i v H Q => ∃ p xs k j, o = .ref p ∧ i = .int k ∧ H p = some (.lst xs) ∧ ixN xs.length k = some j ∧ Q (upd H p (.lst (xs.set j v)))
theorem set_list : PSet X rSetL := by
 intro pins s σ H o i v ov iv u Q I ro ri rv h
 obtain ⟨p, xs, k, j, rfl, rfl, hp, hj, q⟩ := h
 cases ro
 obtain ⟨t, rfl⟩ := ri
 obtain ⟨its, n, r, ho, hz⟩ := I.lst hp
 obtain ⟨h1, h2, h3, h4⟩ := ixN_seq hj
 have hl := r.length
 have hn := line63
 have I' : Inv X pins σ (upd H p (.lst (xs.set j v))) { s with heap := s.heap.update p (Obj.mapSeq (·.setIfInBounds j u)) } :=
  I.lstUpd hp ho (mapSeq_set its n j u) (r.set rv j) (by rw [List.length_set]; exact hz) s.toks
 by_cases h0 : 0 ≤ k
 ·have hk : k.toNat = j := by
   rw [seqIndex_of h0 h4] at h1
   exact Option.some.inj h1
  exact PySem.W.ki_setAt ho h0 (by omega) (by rw [List.size_toArray, ← hl]; exact h4) (by rw [hk]; exact ⟨_, I', q⟩)
 ·have hk : (k + (its.toArray.size : Int)).toNat = j := by
   rw [seqIndex_neg (by omega) h3] at h1
   rw [List.size_toArray, ← hl]
   exact Option.some.inj h1
  exact PySem.W.ki_setBack ho (by omega) (by rw [List.size_toArray, ← hl]; exact h3) (by omega) (by rw [hk]; exact ⟨_, I', q⟩)
theorem slice_bounds (lo hi : Option Int) (n : Nat) : (sliceBounds lo hi none n).1 = ((HT.sIx n 0 lo : Nat) : Int) ∧ (sliceBounds lo hi none n).2.1 = ((HT.sIx n n hi : Nat) : Int) ∧ (sliceBounds lo hi none n).2.2 = 1 := by
 refine ⟨?_, ?_, rfl⟩
 ·cases lo with
  | none => simp [sliceBounds, HT.sIx]
  | some i =>
   simp only [sliceBounds, HT.sIx, Option.getD_none, show (1 : Int) > 0 by decide, if_true]
   by_cases h : i < 0
   ·simp only [h, if_true] <;> omega
   ·simp only [h, if_false] <;> omega
 ·cases hi with
  | none => simp [sliceBounds, HT.sIx]
  | some i =>
   simp only [sliceBounds, HT.sIx, Option.getD_none, show (1 : Int) > 0 by decide, if_true]
   by_cases h : i < 0
   ·simp only [h, if_true] <;> omega
   ·simp only [h, if_false] <;> omega
theorem slicePick_cut (its : List Value) (lo hi : Option Int) : slicePick its.toArray lo hi none = ((its.drop (HT.sIx its.length 0 lo)).take (HT.sIx its.length its.length hi - HT.sIx its.length 0 lo)).toArray := by
 obtain ⟨h1, h2, h3⟩ := slice_bounds lo hi its.toArray.size
 unfold slicePick
 rw [h1, h2, h3]
 simp only [sliceRange_one, pick_run, List.size_toArray] <;> rfl
noncomputable def rSlL (K : PySem.W.Frag) : V → Option Int → Option Int → Hp → VK → Prop := fun x lo hi H Q => ∃ a xs, x = .ref a ∧ SqL K H a xs ∧ ∀ p, H p = none → Q (.ref p) (upd H p (.lst (cutV xs lo hi)))
theorem sl_list : SlR X (rSlL X.K) := by
 intro pins s σ H x v vl vu lo hi sl Q I rx hs pl pu h
 obtain ⟨a, xs, rfl, hx, q⟩ := h
 cases rx
 obtain ⟨its, r, ht, hz⟩ := I.list hx
 have hlen := r.length
 refine ⟨"list", _, slot_list_getitem.lookup, ht.isList.typeIs, ?_⟩
 refine wpAny_getItem_list_slice ht.isList hs pl pu .none (by simp) ?_ (by rw [List.size_toArray] <;> omega)
 rw [slicePick_cut, ← hlen]
 refine ⟨.ref s.heap.objs.size, _, I.laid (t' := s.toks) (o := .lst (cutV xs lo hi)) (fun b ob q => Heap.get?_push_of_some _ q) (Nat.le_refl _) ?_, rfl, q _ (I.hok.fresh (Nat.le_refl _))⟩
 exact ⟨Nat.le_trans (cutV_length xs lo hi) hz, _, 0, (r.drop (HT.sIx xs.length 0 lo)).take (HT.sIx xs.length xs.length hi - HT.sIx xs.length 0 lo), Heap.get?_push_size _ rfl⟩
noncomputable def flatV : V → Bool
 | .non => true
 | .bl _ => true
 | .int _ => true
 | .str _ => true
 | _ => false
noncomputable def eqV : V → V → Bool
 | .non, .non => true
 | .bl a, .bl b => a == b
 | .bl a, .int b => (if a then 1 else 0) == b
 | .int a, .bl b => a == (if b then 1 else 0)
 | .int a, .int b => a == b
 | .str a, .str b => a == b
 | _, _ => false
theorem eqAt_V {A : Around} {s : Shared} {y x : V} {u v : Value} (ry : RelV y u) (rx : RelV x v) (fy : flatV y = true) (fx : flatV x = true) : SeqAt.EqAt A s u v (eqV y x) := by
 cases y with
 | non =>
  cases ry
  cases x with
  | non => cases rx; exact SeqAt.EqAt.same _
  | bl b => cases rx; exact SeqAt.EqAt.none_bool b
  | int b => obtain ⟨t, rfl⟩ := rx; exact SeqAt.EqAt.none_int b t
  | str b => obtain ⟨t, rfl⟩ := rx; exact SeqAt.EqAt.none_str b t
  | _ => exact absurd (show false = true from fx) Bool.false_ne_true
 | bl a =>
  cases ry
  cases x with
  | non => cases rx; exact SeqAt.EqAt.bool_none a
  | bl b => cases rx; exact SeqAt.EqAt.bool_bool a b
  | int b => obtain ⟨t, rfl⟩ := rx; exact SeqAt.EqAt.bool_int a b t
  | str b => obtain ⟨t, rfl⟩ := rx; exact SeqAt.EqAt.bool_str a b t
  | _ => exact absurd (show false = true from fx) Bool.false_ne_true
 | int a =>
  obtain ⟨t', rfl⟩ := ry
  cases x with
  | non => cases rx; exact SeqAt.EqAt.int_none a t'
  | bl b => cases rx; exact SeqAt.EqAt.int_bool a t' b
  | int b => obtain ⟨t, rfl⟩ := rx; exact SeqAt.EqAt.int_int a t' b t
  | str b => obtain ⟨t, rfl⟩ := rx; exact SeqAt.EqAt.int_str a t' b t
  | _ => exact absurd (show false = true from fx) Bool.false_ne_true
 | str a =>
  obtain ⟨t', rfl⟩ := ry
  cases x with
  | non => cases rx; exact SeqAt.EqAt.str_none a t'
  | bl b => cases rx; exact SeqAt.EqAt.str_bool a t' b
  | int b => obtain ⟨t, rfl⟩ := rx; exact SeqAt.EqAt.str_int a t' b t
  | str b => obtain ⟨t, rfl⟩ := rx; exact SeqAt.EqAt.str_str a t' b t
  | _ => exact absurd (show false = true from fx) Bool.false_ne_true
 | _ => exact absurd (show false = true from fy) Bool.false_ne_true
noncomputable def eqU (x : V) (u : Value) : Bool := match u with
 | .none => eqV .non x
 | .bool b => eqV (.bl b) x
 | .int i _ => eqV (.int i) x
 | .str z _ => eqV (.str z) x
 | _ => false
theorem eqU_of {x y : V} {u : Value} (r : RelV y u) (f : flatV y = true) : eqU x u = eqV y x := by
 cases y with
 | non => cases r; rfl
 | bl b => cases r; rfl
 | int i => obtain ⟨t, rfl⟩ := r; rfl
 | str z => obtain ⟨t, rfl⟩ := r; rfl
 | _ => exact absurd (show false = true from f) Bool.false_ne_true
theorem any_eqU {x : V} : ∀ {xs : List V} {us : List Value}, Vals xs us → xs.all flatV = true → us.any (eqU x) = xs.any fun y => eqV y x
 | _, _, .nil, _ => rfl
 | y :: xs, u :: us, .cons r t, f => by
  rw [List.all_cons, Bool.and_eq_true] at f
  rw [List.any_cons, List.any_cons, eqU_of r f.1, any_eqU t f.2]
theorem mem_eqAt {A : Around} {s : Shared} {x : V} {v : Value} (rx : RelV x v) (fx : flatV x = true) : ∀ {xs : List V} {us : List Value}, Vals xs us → xs.all flatV = true → ∀ u ∈ us, SeqAt.EqAt A s u v (eqU x u)
 | _, _, .nil, _ => fun u hu => by cases hu
 | y :: xs, u :: us, .cons r t, f => fun u' hu => by
  rw [List.all_cons, Bool.and_eq_true] at f
  rcases List.mem_cons.mp hu with rfl | hu
  ·rw [eqU_of r f.1]; exact eqAt_V r rx f.1 fx
  ·exact mem_eqAt rx fx t f.2 u' hu
noncomputable def inV (x : V) (xs : List V) : Bool := xs.any fun y => eqV y x
noncomputable def rIn (K : PySem.W.Frag) (neg : Bool) : R2 := fun x y H Q => ∃ p xs, y = .ref p ∧ (SqL K H p xs ∨ SqT K H p xs) ∧ flatV x = true ∧ xs.all flatV = true ∧ Q (.bl (if neg then !inV x xs else inV x xs)) H
theorem op_in_seq : OpR X (compareOp .In) (rIn X.K false) := by
 intro pins s σ H x y v u Q I rx ry h
 obtain ⟨p, xs, rfl, hq, fx, fs, q⟩ := h
 cases ry
 rcases hq with hq | hq
 ·obtain ⟨its, r, pl, hz⟩ := I.list hq
  refine SeqAt.in_listAt (eqU x) pl.isList (fun w hw => mem_eqAt rx fx r fs w (by simpa using hw)) ⟨.bl _, H, I, rfl, ?_⟩
  rw [show its.toArray.any (eqU x) = its.any (eqU x) by simp, any_eqU r fs]
  exact q
 ·obtain ⟨its, r, pl, hz⟩ := I.tuple hq
  refine SeqAt.in_tupleAt (eqU x) pl (fun w hw => mem_eqAt rx fx r fs w (by simpa using hw)) ⟨.bl _, H, I, rfl, ?_⟩
  rw [show its.toArray.any (eqU x) = its.any (eqU x) by simp, any_eqU r fs]
  exact q
theorem op_notIn_seq : OpR X (compareOp .NotIn) (rIn X.K true) := by
 intro pins s σ H x y v u Q I rx ry h
 obtain ⟨p, xs, rfl, hq, fx, fs, q⟩ := h
 cases ry
 rcases hq with hq | hq
 ·obtain ⟨its, r, pl, hz⟩ := I.list hq
  refine SeqAt.notIn_listAt (eqU x) pl.isList (fun w hw => mem_eqAt rx fx r fs w (by simpa using hw)) ⟨.bl _, H, I, rfl, ?_⟩
  rw [show its.toArray.any (eqU x) = its.any (eqU x) by simp, any_eqU r fs]
  exact q
 ·obtain ⟨its, r, pl, hz⟩ := I.tuple hq
  refine SeqAt.notIn_tupleAt (eqU x) pl (fun w hw => mem_eqAt rx fx r fs w (by simpa using hw)) ⟨.bl _, H, I, rfl, ?_⟩
  rw [show its.toArray.any (eqU x) = its.any (eqU x) by simp, any_eqU r fs]
  exact q
theorem call_list_of : CallR X (.type "list") (fun xs H Q => ∃ p ys, xs = [.ref p] ∧ (SqL X.K H p ys ∨ SqT X.K H p ys) ∧ ∀ l, H l = none → Q (.ref l) (upd H l (.lst ys))) := by
 intro pins s σ H xs us Q I r h
 obtain ⟨p, ys, rfl, hq, q⟩ := h
 obtain ⟨u, rfl, rx⟩ := vals1 r
 cases rx
 have fin : ∀ (its : List Value), Vals ys its → ys.length ≤ sizeLine → ∀ (h' : Heap) (c' : Nat), (∀ b o', s.heap.get? b = some o' → h'.get? b = some o') →
   h'.get? s.heap.objs.size = some { cls := .type "list", dict := none, data := .seq its.toArray c', slots := #[] } → EP X pins σ Q (.ref s.heap.objs.size) { s with heap := h' } := fun its r' hz h' c' kp e =>
  ⟨.ref s.heap.objs.size, _, I.laid (t' := s.toks) kp (Nat.le_refl _) (show ObjOk X.prog X.w _ h' _ (.lst ys) from ⟨hz, its, c', r', e⟩), rfl, q _ (I.hok.fresh (Nat.le_refl _))⟩
 rcases hq with hq | hq
 ·obtain ⟨its, r', pl, hz⟩ := I.list hq
  have hlen := r'.length
  obtain ⟨o, ho, hc, n, hd⟩ := pl.isList
  exact call_list_seq p (.inl rfl) ho hc hd (fun h' c' kp e => fin its r' hz h' c' kp e) (by simp only [List.size_toArray] <;> omega)
 ·obtain ⟨its, r', pl, hz⟩ := I.tuple hq
  have hlen := r'.length
  obtain ⟨o, ho, hc, n, hd⟩ := pl
  exact call_list_seq p (.inr rfl) ho hc hd (fun h' c' kp e => fin its r' hz h' c' kp e) (by simp only [List.size_toArray] <;> omega)
theorem call_tuple_of : CallR X (.type "tuple") (fun xs H Q => ∃ p ys, xs = [.ref p] ∧ ((SqL X.K H p ys ∧ ∀ l, H l = none → Q (.ref l) (upd H l (.tup ys))) ∨ (SqT X.K H p ys ∧ Q (.ref p) H))) := by
 intro pins s σ H xs us Q I r h
 obtain ⟨p, ys, rfl, h⟩ := h
 obtain ⟨u, rfl, rx⟩ := vals1 r
 cases rx
 rcases h with ⟨hq, q⟩ | ⟨hq, q⟩
 ·obtain ⟨its, r', pl, hz⟩ := I.list hq
  have hlen := r'.length
  refine call_tuple_list pl.isList (fun h' kp => ?_) (by simp only [List.size_toArray] <;> omega)
  have I1 : Inv X pins σ H { s with heap := h' } := I.kept (t' := s.toks) kp
  have I2 : Inv X pins σ (upd H h'.objs.size (.tup ys)) { s with heap := h'.push { cls := .type "tuple", data := .seq its.toArray } } :=
   I1.laid (t' := s.toks) (fun b o e => Heap.get?_push_of_some _ e) (Nat.le_refl _) (show ObjOk X.prog X.w _ _ _ (.tup ys) from ⟨hz, its, r', IsTup.new _ _⟩)
  exact ⟨.ref h'.objs.size, _, I2, rfl, q _ (I1.hok.fresh (Nat.le_refl _))⟩
 ·obtain ⟨its, r', pl, hz⟩ := I.tuple hq
  exact call_tuple_same pl ⟨.ref p, H, I, rfl, q⟩
noncomputable def tyV (K : PySem.W.Frag) (T : String) (x : V) (H : Hp) : Prop := match x with
 | .str _ => T = "str"
 | .int _ => T = "int"
 | .ref p => (T = "list" ∧ ∃ xs, SqL K H p xs) ∨ (T = "tuple" ∧ ∃ o, K.lookup p = some o ∧ o.cls = .type "tuple" ∧ o.dict = none) ∨
   (T = "dict" ∧ ((∃ kvs, H p = some (.dK kvs)) ∨ ∃ kvs, H p = some (.dT kvs))) ∨ (T = "set" ∧ ∃ S n, H p = some (.set S n))
 | _ => False
theorem tyV_is {pins : List (Addr × Obj)} {σ : St} {H : Hp} {s : Shared} {T : String} {x : V} {v : Value} (I : Inv X pins σ H s) (r : RelV x v) (ty : tyV X.K T x H) :
  s.TypeIs v T ∧ ∀ a, v = .ref a → ∃ ob, s.heap.get? a = some ob ∧ ob.dict = none := by
 cases x with
 | str z =>
  obtain ⟨t, rfl⟩ := r
  cases (show T = "str" from ty)
  exact ⟨typeIs_str s z t, fun _ e => nomatch e⟩
 | int i =>
  obtain ⟨t, rfl⟩ := r
  cases (show T = "int" from ty)
  exact ⟨typeIs_int s i t, fun _ e => nomatch e⟩
 | ref p =>
  cases r
  rcases ty with ⟨rfl, xs, hq⟩ | ⟨rfl, o, hk, hc, hd⟩ | ⟨rfl, hk⟩ | ⟨rfl, S, n, hk⟩
  ·obtain ⟨its, _, pl, _⟩ := I.list hq
   refine ⟨pl.isList.typeIs, fun a e => ?_⟩
   cases e
   obtain ⟨o, n, e, c, hd, _⟩ := pl
   exact ⟨o, e, hd⟩
  ·refine ⟨⟨o, I.kIn p o hk, hc⟩, fun a e => ?_⟩
   cases e
   exact ⟨o, I.kIn _ o hk, hd⟩
  ·have z : ∃ o, s.heap.get? p = some o ∧ o.ExactDict := by
    rcases hk with ⟨kvs, hk⟩ | ⟨kvs, hk⟩
    ·obtain ⟨_, _, _, _, o, _, _, e, ex, _⟩ := I.hok p _ hk
     exact ⟨o, e, ex⟩
    ·obtain ⟨_, _, _, _, o, _, _, e, ex, _⟩ := I.hok p _ hk
     exact ⟨o, e, ex⟩
   obtain ⟨o, e, ex⟩ := z
   refine ⟨⟨o, e, ex.1⟩, fun a e2 => ?_⟩
   cases e2
   exact ⟨o, e, ex.2.1⟩
  ·obtain ⟨o, _, _, _, e, ex, _⟩ := I.hok p _ hk
   refine ⟨⟨o, e, ex.1⟩, fun a e2 => ?_⟩
   cases e2
   exact ⟨o, e, ex.2.1⟩
 | _ => exact False.elim ty
noncomputable def tBM0 (K : PySem.W.Frag) (T : String) (r : V → List V → Hp → VK → Prop) (to : TE) : TE := fun σ H Q => to σ H fun x H1 => tyV K T x H1 ∧ r x [] H1 Q
noncomputable def tBM (K : PySem.W.Frag) (T : String) (r : V → List V → Hp → VK → Prop) (to : TE) (t : TA) : TE := fun σ H Q => to σ H fun x H1 => tyV K T x H1 ∧ t σ H1 fun xs H2 => r x xs H2 Q
variable {o e : Expr} {es : List Expr} {to : TE} {t : TA} {name : Str} {apos cpos : Pos} {T id : String} {r : V → List V → Hp → VK → Prop}
theorem pe_bm0 (pa : PlainAttrs T) (slot : Slot T name id) (hty : typeOf (.builtin id) = pure (.type "method_descriptor")) (hm : MtR X id r) (ho : PE X o to)
  (hbase : attributeBase o name X.env (eval o X.env) = eval o X.env := by rfl) (hline : (apos.endLine == cpos.line) = true := by rfl) : PE X (.Call (.Attribute o name apos) [] [] cpos) (tBM0 X.K T r to) := by
 intro pins s σ H Q I h
 refine wpAny_Call_method0_late hbase hline (thn (ho pins s σ H _ I h) fun v s1 ⟨x, H1, I1, r1, ty, q1⟩ => ?_)
 obtain ⟨h1, h2⟩ := tyV_is I1 r1 ty
 exact ⟨T, id, pa, slot, hty, h1, h2, Calls.callWith_builtin rfl (PySem.evalArgs_none (hm pins s1 σ H1 x [] v [] Q I1 r1 .nil q1))⟩
theorem pe_bm (pa : PlainAttrs T) (slot : Slot T name id) (hty : typeOf (.builtin id) = pure (.type "method_descriptor")) (hm : MtR X id r) (ho : PE X o to) (ha : PA X (e :: es) t)
  (hbase : attributeBase o name X.env (eval o X.env) = eval o X.env := by rfl)
  (hfew : ((backTo cpos (starEach (e :: es) X.env)).all (fun x => !x.1) && (backToKw cpos (keywordEach [] X.env)).all (fun x => x.1.isSome)
   && decide ((e :: es).length + ([] : List Keyword).length + (if ([] : List Keyword).isEmpty then 0 else 1) < 30)) = true := by rfl)
  (hline : (apos.endLine == cpos.line) = true := by rfl) (hs : starEach (e :: es) X.env = (false, eval e X.env) :: starEach es X.env := by rfl) (hplain : (backTo cpos (starEach es X.env)).any (·.1) = false := by rfl) :
  PE X (.Call (.Attribute o name apos) (e :: es) [] cpos) (tBM X.K T r to t) := by
 intro pins s σ H Q I h
 refine wpAny_Call_method_late hbase hfew hline rfl (thn (ho pins s σ H _ I h) fun v s1 ⟨x, H1, I1, r1, ty, q1⟩ => ?_)
 obtain ⟨h1, h2⟩ := tyV_is I1 r1 ty
 refine ⟨T, id, pa, slot, hty, h1, h2, ?_⟩
 have hA := ha cpos pins s1 σ H1 _ I1 q1
 rw [hs] at hA ⊢
 refine Calls.callWith_builtin (by show (false || (backTo cpos (starEach es X.env)).any (·.1)) = false; rw [hplain] <;> rfl) (Calls.evalArgs_plain ?_)
 exact thn hA fun us s2 ⟨vs, H2, I2, r2, q2⟩ => hm pins s2 σ H2 x vs v us Q I2 r1 r2 q2
/- xs.append(e), list.index on a module's tuple .. are MtR facts of 06m -/
end
end L2
namespace L2
open PySem PySem.Spec PyProof.Rows
noncomputable def MtM (X : Cx) (id : String) (r : V → List V → Hp → VK → Prop) : Prop :=
 ∀ (pins : List (Addr × Obj)) (s : Shared) (σ : St) (H : Hp) (x : V) (xs : List V) (v : Value) (us : List Value) (Q : VK), Inv X pins σ H s → RelV x v → Vals xs us → r x xs H Q →
  wpAny (model X.prog X.w) X.A (call (.builtin id) (v :: us)) (EP X pins σ Q) X.xe s
theorem Vals.one : ∀ {x : V} {us : List Value}, Vals [x] us → ∃ u, us = [u] ∧ RelV x u
 | _, _, .cons r .nil => ⟨_, rfl, r⟩
theorem Vals.zero : ∀ {us : List Value}, Vals [] us → us = []
 | _, .nil => rfl
section
variable {X : Cx} {pins : List (Addr × Obj)} {σ : St} {H : Hp} {s : Shared} {l b : Addr} {xs ys zs : List V}
theorem Inv.lset {its its' : List Value} {n : Nat} {f : Array Value → Array Value} {t' : Nat} (I : Inv X pins σ H s) (hH : H l = some (.lst xs))
  (e : s.heap.get? l = some { cls := .type "list", data := .seq its.toArray n }) (hf : f its.toArray = its'.toArray) (hv : Vals ys its') (hz : ys.length ≤ sizeLine) :
  Inv X pins σ (upd H l (.lst ys)) { s with heap := s.heap.update l (Obj.mapSeq f), toks := t' } := by
 have q := PySem.IsL.update e f
 rw [hf] at q
 refine I.write (x := l) (e := l) (by rw [hH]; exact trivial) (.inl rfl) (fun b' u hb hu => (Heap.get?_update_other s.heap (Obj.mapSeq f) (Ne.symm hb)).trans hu) ⟨_, q⟩ ?_
 exact ⟨hz, its', _, hv, q⟩
theorem Inv.lnew {its : List Value} {t' : Nat} (I : Inv X pins σ H s) (hv : Vals ys its) (hz : ys.length ≤ sizeLine) :
  Inv X pins σ (upd H s.heap.objs.size (.lst ys)) { s with heap := s.heap.push { cls := .type "list", data := .seq its.toArray }, toks := t' } :=
 I.laid (fun _ _ q => Heap.get?_push_of_some _ q) (Nat.le_refl _) ⟨hz, its, 0, hv, Heap.get?_push_size _ rfl⟩
theorem Inv.fresh (I : Inv X pins σ H s) : H s.heap.objs.size = none := I.hok.fresh (Nat.le_refl _)
theorem Inv.lstM (I : Inv X pins σ H s) (hH : H l = some (.lst xs)) : xs.length ≤ sizeLine ∧ ∃ (its : List Value) (n : Nat), Vals xs its ∧ xs.length = its.length ∧ s.heap.get? l = some { cls := .type "list", data := .seq its.toArray n } := by
 obtain ⟨z, its, n, r, e⟩ := I.hok l _ hH
 exact ⟨z, its, n, r, r.length, e⟩
end
section
variable {X : Cx}
noncomputable def rAppend : V → List V → Hp → VK → Prop := fun x vs H Q => ∃ l xs y, x = .ref l ∧ vs = [y] ∧ H l = some (.lst xs) ∧ xs.length < sizeLine ∧ Q .non (upd H l (.lst (xs ++ [y])))
theorem mt_append : MtM X "list.append" rAppend := by
 intro pins s σ H x vs v us Q I rx rv h
 obtain ⟨l, xs, y, rfl, rfl, hH, hz, q⟩ := h
 cases rx
 obtain ⟨u, rfl, ru⟩ := rv.one
 obtain ⟨z, its, n, r, hl, e⟩ := I.lstM hH
 refine call_meets F.slot_list_append ⟨_, e, rfl⟩ F.entry_list_append (F.args_list_append_2 _ _) (PySem.list_append l its.toArray n u (by rw [List.size_toArray]; omega)) ⟨e, ?_⟩
 refine ⟨.non, _, I.lset (its' := its ++ [u]) hH e (by simp) (r.append (.cons ru .nil)) ?_, rfl, q⟩
 rw [List.length_append, List.length_singleton]
 omega
noncomputable def rClear : V → List V → Hp → VK → Prop := fun x vs H Q => ∃ l xs, x = .ref l ∧ vs = [] ∧ H l = some (.lst xs) ∧ Q .non (upd H l (.lst []))
theorem mt_clear : MtM X "list.clear" rClear := by
 intro pins s σ H x vs v us Q I rx rv h
 obtain ⟨l, xs, rfl, rfl, hH, q⟩ := h
 cases rx
 have hus := rv.zero
 subst hus
 obtain ⟨z, its, n, r, hl, e⟩ := I.lstM hH
 refine call_meets F.slot_list_clear ⟨_, e, rfl⟩ F.entry_list_clear (F.args_list_clear_1 _) (AutoSeq1.list_clear_list_0 l its.toArray n (by rw [List.size_toArray]; omega)) ⟨e, ?_⟩
 exact ⟨.non, _, I.lset (its' := []) (ys := []) hH e rfl .nil (Nat.zero_le _), rfl, q⟩
noncomputable def rCat : R2 := fun x y H Q => ∃ l b xs zs, x = .ref l ∧ y = .ref b ∧ H l = some (.lst xs) ∧ H b = some (.lst zs) ∧ xs.length + zs.length ≤ sizeLine ∧ ∀ p, H p = none → Q (.ref p) (upd H p (.lst (xs ++ zs)))
theorem op_cat : OpR X (binaryOp .Add) rCat := by
 intro pins s σ H x y v u Q I rx ry h
 obtain ⟨l, b, xs, zs, rfl, rfl, hH, hB, hz, q⟩ := h
 cases rx
 cases ry
 obtain ⟨z, its, n, r, hl, e⟩ := I.lstM hH
 obtain ⟨z2, its2, n2, r2, hl2, e2⟩ := I.lstM hB
 refine PySem.P.add_list e e2 ?_ (by rw [List.size_toArray, List.size_toArray]; omega)
 have ea : its.toArray ++ its2.toArray = (its ++ its2).toArray := by simp
 rw [ea]
 exact ⟨.ref _, _, I.lnew (t' := s.toks) (r.append r2) (by rw [List.length_append]; omega), rfl, q _ I.fresh⟩
end
section
variable {prog : Program} {w : World} {A : Around} {E : Value → Shared → Prop} {s : Shared}
end
section
variable {X : Cx}
end
end L2
namespace Att
open PySem PySem.W PySem.Calls PyProof.Rows
theorem ints_of_wellAll {P : Params} {h : Heap} : ∀ (ns : List Int) (vs : List Value), WellAll P h vs (ns.map WData.int) → IntsAre vs ns := by
 intro ns
 induction ns with
 | nil =>
  intro vs w
  rw [List.map_nil] at w
  cases w
  exact .nil
 | cons n ns ih =>
  intro vs w
  rw [List.map_cons] at w
  cases w with
  | cons a b =>
   cases a
   exact .cons _ _ (ih _ b)
theorem script_of {l : OpenLaw} {n : Nat} (hn : l.most = some n) {P : Params} {h : Heap} {args : List WData} {vals : List Value}
  (hpre : l.row.toRowW.claim.pre args = true) (hwl : WellAll P h vals args) :
  ∃ a vs ns, vals = [Value.ref a] ∧ args = [WData.list (ns.map WData.int)] ∧ h.get? a = some { cls := .type "list", data := .seq vs.toArray } ∧ IntsAre vs ns ∧ ns.length ≤ n := by
 have hsh : WShape.hasAll [] args [.list .int] = true := (pre_splitW hpre).1
 have hc : l.pre.holds [] { args := args } = true := (pre_splitW hpre).2
 obtain ⟨d, r, rfl, h1, h2⟩ := hasAllW_cons hsh
 obtain rfl := hasAllW_nil h2
 obtain ⟨xs, rfl, h3⟩ := hasW_list h1
 obtain ⟨ns, rfl⟩ := items_int h3
 have hlen : ns.length ≤ n := by
  unfold OpenLaw.pre at hc
  have h4 : (WTm.not (.lt (.lit (.int (n : Int))) (.len (.arg 0)))).holds [] { args := [.list (ns.map .int)] } = true := by
   have h4 := (holds_andW hc).1
   rw [hn] at h4
   exact h4
  have h5 := condW_of h4 (w_not (w_lt w_lit (w_len_list (w_arg rfl))))
  rw [List.length_map] at h5
  refine Nat.le_of_not_lt fun q => ?_
  have q' : (n : Int) < ((ns.length : Nat) : Int) := by omega
  first
   | (rw [decide_eq_true q'] at h5; exact absurd h5 (by decide))
   | (simp at h5; omega)
 cases hwl with
 | cons w1 w2 =>
  cases w2
  cases w1 with
  | list ho hall => exact ⟨_, _, ns, rfl, rfl, ho, ints_of_wellAll ns _ hall, hlen⟩
theorem post_true (l : OpenLaw) (args : List WData) : l.row.toRowW.claim.post args (.bool true) args = true :=
 postW_of (r := l.row.toRowW) (X := (true == true))
  (show WShape.has [] (.bool true) .bool = true by first | rfl | decide | simp [WShape.has, WShape.arms, WShape.armsAll])
  (show (WTm.eq .res (.lit (.bool true))).value [] { args := args, res := some (.bool true), after := args } = some (.bool (true == true)) from w_eq_bool (w_res rfl) w_lit) rfl
section
variable {prog : Program} {w : World} {A : Around} {E : Value → Shared → Prop} {s : Shared} {K : Frag}
end
end Att
namespace L2
open PySem PySem.Spec PyProof.Rows
theorem vals_ints : ∀ {vs : List Value} {ns : List Int}, IntsAre vs ns → Vals (ns.map V.int) vs
 | _, _, .nil => .nil
 | _, _, .cons n t h => .cons ⟨t, rfl⟩ (vals_ints h)
noncomputable def Only (H : Hp) : Prop := ∀ b, H b = none ∨ ∃ o xs, H b = some (.frz o (.lst xs))
theorem law_call {P : Program} {w : World} {K : PySem.W.Frag} {mg mb : Str → Option Value} {CX : CXT} {k : Nat} {fa a : Addr} {fd : FuncData} {x : Str} {sp : Sp} {s₁ : Shared} {vs : List Value} {ns : List Int}
  (KX : K.In s₁.heap) (hns : s₁.heap.Ns mainGlobals mg) (hb : s₁.heap.Ns builtinsNs mb) (hbb : ∀ x : Str, x ≠ "__name__" → mb x = bootBuiltins x) (hlim : s₁.heap.NoLimit) (hg : s₁.gens = #[])
  (ha : s₁.heap.get? a = some { cls := .type "list", data := .seq vs.toArray }) (hi : IntsAre vs ns) (hl : ns.length ≤ sizeLine) (hr : Room k callerA)
  (F : ∀ base : Heap, K.In base → base.Ns mainGlobals mg → FnOk P w K mg base CX k fa fd [x] sp) (hbind : ∀ (s : Shared) (u : Value), BindsTo s fd ⟨[u], []⟩ [(x, u)])
  (hsp : ∀ H : Hp, Only H → SqL K H a (ns.map V.int) → sp [.ref a] H (fun v _ => v = .bl true) fun _ _ _ => False)
  (hCX : ∀ H e s', CX [] H s₁ (fun _ _ _ => False) e s' → False) :
  codeAny (model P w) callerA (.call (.ref fa) ⟨[.ref a], []⟩) (fun r s' => r = .ok (.ret (.bool true)) ∧ OldK s₁.heap s'.heap ∧ s'.os = s₁.os ∧ AllBare s'.gens) s₁ := by
 have rv := vals_ints hi
 have lenV := hi.length
 -- from an abstract heap in which nothing but the script may be tracked
 have core : ∀ H : Hp, Only H → SqL K H a (ns.map V.int) → HOk P w H s₁.heap → (∀ b, H b ≠ none → b = a) → (H a ≠ none → K.lookup a = none) →
   codeAny (model P w) callerA (.call (.ref fa) ⟨[.ref a], []⟩) (fun r s' => r = .ok (.ret (.bool true)) ∧ OldK s₁.heap s'.heap ∧ s'.os = s₁.os ∧ AllBare s'.gens) s₁ := by
  intro H hO hS hok hA hK
  have base_of : ∀ {b : Addr} {o : Obj}, s₁.heap.get? b = some o → H b = none → (hidT s₁.heap H).get? b = some o := fun e n => hidT_get e n
  have noA : ∀ {b : Addr} {o : Obj} {es : Array DictEntry} {ep : Nat}, s₁.heap.get? b = some o → o.data = .dict es ep → H b = none := fun {b o es ep} e d => by
   cases q : H b with
   | none => rfl
   | some u =>
    have e' : b = a := hA b (by rw [q]; simp)
    subst e'
    rw [ha] at e; cases e
    have d' : Data.seq vs.toArray _ = Data.dict es ep := d
    cases d'
  have nsK : ∀ {b : Addr} {m : Str → Option Value}, s₁.heap.Ns b m → (hidT s₁.heap H).Ns b m := fun {b m} ⟨o, es, ep, e, d, r⟩ => ⟨o, es, ep, base_of e (noA e d), d, r⟩
  have hKb : K.In (hidT s₁.heap H) := fun b o e => base_of (KX b o e) (by
   cases q : H b with
   | none => rfl
   | some u =>
    have e' : b = a := hA b (by rw [q]; simp)
    subst e'
    rw [hK (by rw [q]; simp)] at e; cases e)
  have hM : Mod K mg (hidT s₁.heap H) := ⟨hKb, nsK hns, ⟨mb, nsK hb, hbb⟩, let ⟨mc, h1, h2⟩ := hlim; ⟨mc, nsK h1, h2⟩⟩
  have e0 : Env0 P w K mg (hidT s₁.heap H) callerA [] s₁ H := ⟨rfl, hM, fun b o e => of_hidT e, Nat.le_of_eq (hidT_size _ _), trivial, fun b hb => absurd (show b ∈ ([] : List Addr) from hb) (by simp), hok, .of_eq hg⟩
  refine codeAny_mono ((F _ hKb (nsK hns)).run callerA [] s₁ H ⟨[.ref a], []⟩ [.ref a] [.ref a] _ _ hr e0 (hbind s₁ (.ref a)) (.cons rfl .nil) (hsp H hO hS)) fun r s' h => ?_
  cases r with
  | error e => exact (hCX H e s' h).elim
  | ok fl =>
   cases fl with
   | next => exact False.elim h
   | brk => exact False.elim h
   | cont => exact False.elim h
   | ret u =>
    obtain ⟨v, H', os, bare, un, hok', r', q⟩ := h
    have q' : v = .bl true := q
    subst q'
    obtain rfl : u = Value.bool true := r'
    refine ⟨rfl, OldK.of_keep fun b o e => ?_, os, bare⟩
    cases q : H b with
    | none => exact un.keep b o e q (by intro z; exact absurd (show b ∈ ([] : List Addr) from z) (by simp)) (by simp)
    | some u =>
     rcases hO b with z | ⟨ob, xs, z⟩
     ·rw [q] at z; cases z
     ·have z2 := un.frzs b ob _ z
      obtain ⟨e1, _⟩ := hok b _ z
      obtain ⟨e2, _⟩ := hok' b _ z2
      rw [e] at e1; cases e1
      exact e2
 cases hk : K.lookup a with
 | some o =>
  -- the script is one of the module's own objects
  have e := KX a o hk
  rw [ha] at e
  cases e
  refine core (fun _ => none) (fun _ => .inl rfl) (.inr ⟨_, vs.toArray, _, hk, rfl, rfl, rfl, by rw [List.size_toArray, lenV]; exact hl, by simpa using rv⟩) (fun b u z => by have z' : (none : Option HO) = some u := z; cases z') (fun b z => absurd rfl z) fun z => absurd rfl z
 | none =>
  refine core (fun b => if b = a then some (.frz { cls := .type "list", data := .seq vs.toArray } (.lst (ns.map V.int))) else none) (fun b => ?_) (.inl (.inr ⟨{ cls := .type "list", data := .seq vs.toArray }, if_pos rfl⟩)) (fun b u z => ?_) (fun b z => ?_) fun _ => hk
  ·by_cases hb : b = a
   ·exact .inr ⟨_, _, if_pos hb⟩
   ·exact .inl (if_neg hb)
  ·by_cases hb : b = a
   ·have z' := (if_pos hb).symm.trans z
    cases z'
    subst hb
    exact ⟨ha, by rw [List.length_map]; exact hl, vs, _, rv, ha⟩
   ·have z' := (if_neg hb).symm.trans z
    cases z'
  ·by_cases hb : b = a
   ·exact hb
   ·exact absurd (if_neg hb) z
end L2
namespace L2
open PySem PySem.Spec PyProof.Rows
noncomputable abbrev KOf {K : PySem.W.Frag} {h : Heap} (_ : K.In h) : PySem.W.Frag := K
end L2
/- THE LAST THEOREM (shape; LID, My.* are yours):
   My.Adr: a structure of the addresses that your layer names (classes, functions); My.Txt K t: a structure (Prop) of the equations over K;
   My.txt_mk : {K} {implicit addresses ..} (e1 : nsIn K mainGlobals "law" = some (some (.ref f))) (e2 : K.lookup f = some ⟨oc, od, .func (fnOf "law" "law" params body scope dV kV doc pm an cdv ct), sl⟩) (e3 : codeIn K cdv "law" = true) .. : ∃ t, My.Txt K t
set_option maxRecDepth 100000 in
set_option maxHeartbeats 0 in
theorem PySem.Challenge.cw_LID_holds : PySem.Challenge.rw_LID.Holds := by
 w_on; o_law; k_head; (case hw => w_witness2)
 k_fill
 refine L2.walk_of (l := PySem.Challenge.rw_LID) (n := 63) (k := 40) (x := "script") (CX := fun w => ..) (sp := fun _ => My.sp_law) rfl (by decide) rfl ⟨rfl, by decide, by decide⟩ (fun w h Y => PySem.W.kIn_of Y) ?F ?S ?C
 case F =>
  intro w mg fa h KX G hmg
  have T : ∃ t, My.Txt (L2.KOf KX) t := by
   dsimp only [L2.KOf]                          -- K must stand as «<heap const> w.params» for k_is
   refine' My.txt_mk ?e1 ?e2 ?e3 ..
   (case e1 => PySem.W.k_is)                    -- in the order: a name -> its address -> its object -> its parts
   (case e2 => PySem.W.k_is)
   ..
  obtain ⟨t, T⟩ := T
  have e0 := hmg.symm.trans (PySem.W.mg_of KX G T.law)
  cases e0                                       -- fa is the law's own address
  exact ⟨_, fun s u => .of_eq rfl, fun base kb nb => My.law_fn T kb nb⟩     -- if «.of_eq rfl» comes too early: refine' ⟨_, ?b, fun base kb nb => My.law_fn T kb nb⟩; exact fun s u => .of_eq rfl
 case S => exact fun w H a ns hl hO hS => ..
 case C => exact ..
(the tactic k_is has no namespace: write k_is) -/
namespace L2
open PySem PySem.Spec PyProof.Rows
noncomputable def defArgs (s : Stmt) : Arguments := match s with
 | .FunctionDef _ a _ _ _ _ _ _ _ _ => a
 | _ => { posonlyargs := [], args := [], vararg := none, kwonlyargs := [], kw_defaults := [], kwarg := none, defaults := [] }
noncomputable def defBody (s : Stmt) : List Stmt := match s with
 | .FunctionDef _ _ b _ _ _ _ _ _ _ => b
 | _ => []
noncomputable def defScope (s : Stmt) : Scope := match s with
 | .FunctionDef _ _ _ _ _ _ sc _ _ _ => sc
 | _ => { kind := .function, names := [], isGenerator := false, isCoroutine := false }
noncomputable abbrev CX0 : CXT := fun _ _ _ _ _ _ => False
noncomputable abbrev E0 : XK := fun _ _ _ => False
theorem pass0 {X : Cx} : Passes CX0 X E0 := fun _ _ _ _ _ _ _ h => h.elim
structure Fun (K : PySem.W.Frag) (x qual : Str) (st : Stmt) (f : Addr) (fd : FuncData) : Prop where
 ex : ∃ (oc : Value) (od : Option Addr) (kV doc pm : Value) (an : Option Addr) (cdv ct : Value) (osl : Array (Option Value)),
  fd = PySem.W.fnOf x qual (defArgs st) (defBody st) (defScope st) .none kV doc pm an cdv ct ∧ K.lookup f = some ⟨oc, od, .func fd, osl⟩ ∧ PySem.W.codeIn K cdv qual = true
 kp : PySem.W.keepIn K (.ref f) = true
section
variable {P : Program} {w : World} {K : PySem.W.Frag} {mg : Str → Option Value} {base : Heap}
theorem Fun.ok {x qual : Str} {st : Stmt} {f : Addr} {fd : FuncData} {N ps : List Str} {k : Nat} {sp : Sp} (F : Fun K x qual st f fd) (S : FnScope N ps (defScope st)) (len : ∀ vs H Q E, sp vs H Q E → vs.length = ps.length)
  (hbody : ∀ (cdv : Value) (A : Around) (outer : List Env) (s : Shared) (H : Hp) (vs : List V) (Q : VK) (E : XK), Room k (A.deeper (envOfC qual (defScope st) s.heap.objs.size f cdv)) → sp vs H Q E →
   ∃ t, PSs (cxOf CX0 P w K mg base N qual (defScope st) f cdv A outer s H E).nox (defBody st) t ∧ t { nx := fun _ H' => Q .non H', rt := Q } (start N vs) H) : FnOk P w K mg base CX0 (k + 1) f fd ps sp := by
 obtain ⟨oc, od, kV, doc, pm, an, cdv, ct, osl, rfl, lk, hcd⟩ := F.ex
 refine fn_of lk hcd S len fun A outer s H vs Q E hr hsp => ?_
 obtain ⟨t, h, q⟩ := hbody cdv A outer s H vs Q E hr hsp
 exact ⟨t, h.nox, q⟩
theorem Fun.binds {x qual : Str} {st : Stmt} {f : Addr} {fd : FuncData} {ps : List Str} (F : Fun K x qual st f fd)
  (h : ∀ (kV doc pm : Value) (an : Option Addr) (cdv ct : Value) (us : List Value), us.length = ps.length → bindArgs (PySem.W.fnOf x qual (defArgs st) (defBody st) (defScope st) .none kV doc pm an cdv ct) ⟨us, []⟩ = pure (ps.zip us)) : Binds K fd ps [] := by
 obtain ⟨oc, od, kV, doc, pm, an, cdv, ct, osl, rfl, lk, hcd⟩ := F.ex
 exact .all (h kV doc pm an cdv ct)
theorem fun_mk {x qual : Str} {st : Stmt} {f : Addr} {oc : Value} {od an : Option Addr} {osl : Array (Option Value)} {kV doc pm cdv ct : Value} (l : K.lookup f = some ⟨oc, od, .func (PySem.W.fnOf x qual (defArgs st) (defBody st) (defScope st) .none kV doc pm an cdv ct), osl⟩)
  (c : PySem.W.codeIn K cdv qual = true) (k : PySem.W.keepIn K (.ref f) = true) : Fun K x qual st f (PySem.W.fnOf x qual (defArgs st) (defBody st) (defScope st) .none kV doc pm an cdv ct) := ⟨⟨oc, od, kV, doc, pm, an, cdv, ct, osl, rfl, l, c⟩, k⟩
end
theorem hu_of {A : Around} {k : Nat} (hr : Room k A) : A.units + 1 < cLine := Nat.lt_of_le_of_lt (Nat.add_le_add_left (by decide : 1 ≤ 64) _) hr.units
section
variable {X : Cx}
theorem pv (i : Nat) {x : Str} {pos : Pos} (hN : X.N[i]? = some x := by rfl) (hv : Vis X.env.scope x := by first | exact Or.inl rfl | exact Or.inr (Or.inl rfl) | exact Or.inr (Or.inr rfl)) (hd : (x == ("__debug__" : Str)) = false := by decide)
  (hcd : (x == ("__classdict__" : Str)) = false := by decide) : PE X (.Name x pos) (tVar i) := pe_var hN hv hd hcd
end
theorem iteF {A B : Prop} (h : B) : if false = true then A else B := by
 rw [if_neg Bool.false_ne_true]
 exact h
theorem iteT {A B : Prop} (h : A) : if true = true then A else B := by
 rw [if_pos rfl]
 exact h
noncomputable def Same (H H' : Hp) : Prop := ∀ b o, H b = some o → H' b = some o
theorem Same.refl (H : Hp) : Same H H := fun _ _ h => h
theorem Same.trans {H H1 H2 : Hp} (a : Same H H1) (b : Same H1 H2) : Same H H2 := fun c o h => b c o (a c o h)
theorem Same.seq {K : PySem.W.Frag} {H H' : Hp} {a : Addr} {xs : List V} (e : Same H H') (h : SqL K H a xs) : SqL K H' a xs := by
 rcases h with (h | ⟨o, h⟩) | h
 ·exact .inl (.inl (e _ _ h))
 ·exact .inl (.inr ⟨o, e _ _ h⟩)
 ·exact .inr h
end L2
namespace L2
open PySem PySem.Spec PyProof.Rows
section
variable {κ : Type} [DecidableEq κ]
noncomputable def valV (kvs : List (κ × V)) (k : κ) : Option V := (kvs.find? fun kv => decide (kv.1 = k)).map (·.2)
noncomputable def putK (kvs : List (κ × V)) (k : κ) (v : V) : List (κ × V) :=
 if (kvs.any fun kv => decide (kv.1 = k)) = true then kvs.map (fun kv => if kv.1 = k then (kv.1, v) else kv) else kvs ++ [(k, v)]
theorem valV_pos {p : κ × V} {r : List (κ × V)} {k : κ} (e : p.1 = k) : valV (p :: r) k = some p.2 := by simp [valV, List.find?_cons, e]
theorem valV_neg {p : κ × V} {r : List (κ × V)} {k : κ} (e : ¬ p.1 = k) : valV (p :: r) k = valV r k := by simp [valV, List.find?_cons, e]
theorem valV_any (k : κ) : ∀ kvs : List (κ × V), (kvs.any fun kv => decide (kv.1 = k)) = (valV kvs k).isSome
 | [] => rfl
 | p :: r => by
  rw [List.any_cons]
  by_cases e : p.1 = k
  ·simp only [valV_pos e, decide_eq_true e, Bool.true_or, Option.isSome_some]
  ·rw [valV_neg e, decide_eq_false e, Bool.false_or]; exact valV_any k r
theorem length_putK (kvs : List (κ × V)) (k : κ) (v : V) : (putK kvs k v).length ≤ kvs.length + 1 := by
 unfold putK
 split
 ·rw [List.length_map]; omega
 ·rw [List.length_append, List.length_cons, List.length_nil]; omega
theorem RelO.isSome_eq {o : Option V} {u : Option Value} (r : RelO o u) : o.isSome = u.isSome := by
 cases o with
 | none => cases u with
  | none => rfl
  | some _ => exact (show False from r).elim
 | some _ => cases u with
  | none => exact (show False from r).elim
  | some _ => rfl
theorem KV.val {kvs : List (κ × V)} {vs : List (κ × Value)} (r : KV kvs vs) (k : κ) : RelO (valV kvs k) (valueAt vs k) := by
 unfold KV at r
 induction r with
 | nil => exact True.intro
 | @cons p q ps qs h t ih =>
  obtain ⟨h1, h2⟩ := h
  by_cases e : p.1 = k
  ·have e' : q.1 = k := h1.symm.trans e
   have b : valueAt (q :: qs) k = some q.2 := by simp [valueAt, List.find?_cons, e']
   rw [valV_pos e, b]; exact h2
  ·have e' : ¬ q.1 = k := fun z => e (h1.trans z)
   have b : valueAt (q :: qs) k = valueAt qs k := by simp [valueAt, List.find?_cons, e']
   rw [valV_neg e, b]; exact ih
theorem KV.any {kvs : List (κ × V)} {vs : List (κ × Value)} (r : KV kvs vs) (k : κ) : (kvs.any fun kv => decide (kv.1 = k)) = vs.any fun kv => decide (kv.1 = k) := by
 unfold KV at r
 induction r with
 | nil => rfl
 | cons h t ih => rw [List.any_cons, List.any_cons, ih, h.1]
theorem KV.repl {kvs : List (κ × V)} {vs : List (κ × Value)} (r : KV kvs vs) (k : κ) {y : V} {u : Value} (ry : RelV y u) :
  KV (kvs.map fun kv => if kv.1 = k then (kv.1, y) else kv) (vs.map fun kv => if kv.1 = k then (kv.1, u) else kv) := by
 unfold KV at r ⊢
 induction r with
 | nil => exact .nil
 | @cons p q ps qs h t ih =>
  rw [List.map_cons, List.map_cons]
  refine .cons ?_ ih
  obtain ⟨h1, h2⟩ := h
  by_cases e : p.1 = k
  ·rw [if_pos e, if_pos (h1.symm.trans e)]; exact ⟨h1, ry⟩
  ·rw [if_neg e, if_neg (fun z => e (h1.trans z))]; exact ⟨h1, h2⟩
theorem KV.put {kvs : List (κ × V)} {vs : List (κ × Value)} (r : KV kvs vs) (k : κ) {y : V} {u : Value} (ry : RelV y u) : KV (putK kvs k y) (stored vs k u) := by
 unfold putK stored
 rw [r.any k]
 by_cases e : (vs.any fun kv => decide (kv.1 = k)) = true
 ·rw [if_pos e, if_pos e]; exact r.repl k ry
 ·rw [if_neg e, if_neg e]; exact Paired.snoc r ⟨rfl, ry⟩
theorem KV.length {kvs : List (κ × V)} {vs : List (κ × Value)} (r : KV kvs vs) : kvs.length = vs.length := Paired.length r
end
theorem kV_is {P : Program} {w : World} {k : Key} {u : Value} (r : RelV (kV k) u) : (mixKind P w).is k u = true := by
 cases k with
 | inl i => obtain ⟨t, e⟩ := (show ∃ t, u = Value.int i t from r); subst e; exact mixKind_int P w i t
 | inr x => obtain ⟨t, e⟩ := (show ∃ t, u = Value.str x t from r); subst e; exact mixKind_str P w x t
theorem items_are {P : Program} {w : World} : ∀ {ks : List Key} {us : List Value}, Vals (ks.map kV) us → ItemsAre (mixKind P w) ks us
 | [], _, r => by rw [List.map_nil] at r; cases r; exact .nil
 | k :: ks, _, r => by
  rw [List.map_cons] at r
  cases r with
  | cons h t => exact .cons (kV_is h) (items_are t)
noncomputable abbrev KT (H : Hp) : List (List Key × V) → List (List Key × Addr × Value) → Prop := Paired fun p q => p.1 = q.1 ∧ H q.2.1 = some (.tup (p.1.map kV)) ∧ RelV p.2 q.2.2
theorem KT.val {H : Hp} {kvs : List (List Key × V)} {xs : List (List Key × Addr × Value)} (r : KT H kvs xs) (k : List Key) : RelO (valV kvs k) ((atKey xs k).map (·.2)) := by
 induction r with
 | nil => exact True.intro
 | @cons p q ps qs h t ih =>
  obtain ⟨h1, _, h2⟩ := h
  by_cases e : p.1 = k
  ·have e' : q.1 = k := h1.symm.trans e
   have b : atKey (q :: qs) k = some q.2 := by simp [atKey, List.find?_cons, e']
   rw [valV_pos e, b]; exact h2
  ·have e' : ¬ q.1 = k := fun z => e (h1.trans z)
   have b : atKey (q :: qs) k = atKey qs k := by simp [atKey, List.find?_cons, e']
   rw [valV_neg e, b]; exact ih
theorem KT.repl {H : Hp} {kvs : List (List Key × V)} {xs : List (List Key × Addr × Value)} (r : KT H kvs xs) (k : List Key) {y : V} {u : Value} (ry : RelV y u) :
  KT H (kvs.map fun kv => if kv.1 = k then (kv.1, y) else kv) (xs.map (putAt k u)) := by
 induction r with
 | nil => exact .nil
 | @cons p q ps qs h t ih =>
  rw [List.map_cons, List.map_cons]
  refine .cons ?_ ih
  obtain ⟨h1, h2, h3⟩ := h
  unfold putAt
  by_cases e : p.1 = k
  ·rw [if_pos e, if_pos (h1.symm.trans e)]; exact ⟨h1, h2, ry⟩
  ·rw [if_neg e, if_neg (fun z => e (h1.trans z))]; exact ⟨h1, h2, h3⟩
theorem KT.put {H : Hp} {kvs : List (List Key × V)} {xs : List (List Key × Addr × Value)} (r : KT H kvs xs) (k : List Key) {b : Addr} {y : V} {u : Value} (hb : H b = some (.tup (k.map kV))) (ry : RelV y u) :
  KT H (putK kvs k y) (storedH xs k b u) := by
 have e : (kvs.any fun kv => decide (kv.1 = k)) = (atKey xs k).isSome := by
  rw [valV_any, (r.val k).isSome_eq, Option.isSome_map]
 unfold putK storedH
 rw [e]
 by_cases q : (atKey xs k).isSome = true
 ·rw [if_pos q, if_pos q]; exact r.repl k ry
 ·rw [if_neg q, if_neg q]; exact Paired.snoc r ⟨rfl, hb, ry⟩
theorem KT.keeps {H H' : Hp} {kvs : List (List Key × V)} {xs : List (List Key × Addr × Value)} (r : KT H kvs xs) (ht : ∀ b ys, H b = some (.tup ys) → H' b = some (.tup ys)) : KT H' kvs xs :=
 Paired.mapP r fun _ _ z => ⟨z.1, ht _ _ z.2.1, z.2.2⟩
section
variable {P : Program} {w : World} {H : Hp} {h : Heap} {a : Addr}
theorem rd_of {u : HO} (ok : HOk P w H h) (e : Rd H a u) : ObjOk P w H h a u := e.ok ok
theorem dk_rd {kvs : List (Key × V)} (ok : HOk P w H h) (e : Rd H a (.dK kvs)) : kvs.length ≤ sizeLine ∧ (a == sysModules) = false ∧ ∃ vs, KV kvs vs ∧ h.DictOf (mixKind P w) a vs :=
 show ObjOk P w H h a (.dK kvs) from rd_of ok e
theorem dk_of {kvs : List (Key × V)} (ok : HOk P w H h) (e : H a = some (.dK kvs)) : kvs.length ≤ sizeLine ∧ (a == sysModules) = false ∧ ∃ vs, KV kvs vs ∧ h.DictOf (mixKind P w) a vs := dk_rd ok (.inl e)
theorem key_of {ks : List Key} (ok : HOk P w H h) (e : H a = some (.tup (ks.map kV))) : (tupleKind (mixKind P w)).is h ks a := by
 obtain ⟨_, its, r, o, h1, h2, n, h3⟩ := (show ObjOk P w H h a (.tup (ks.map kV)) from ok a _ e)
 exact ⟨o, its.toArray, n, h1, h2, h3, by simpa using items_are r⟩
theorem dt_rd {kvs : List (List Key × V)} (ok : HOk P w H h) (e : Rd H a (.dT kvs)) : kvs.length ≤ sizeLine ∧ (a == sysModules) = false ∧
  ∃ xs, KT H kvs xs ∧ h.DictOfH (tupleKind (mixKind P w)) a xs := by
 obtain ⟨z, y, xs, r, o, es, ep, h1, h2, h3, h4, h5⟩ := (show ObjOk P w H h a (.dT kvs) from rd_of ok e)
 refine ⟨z, y, xs, r, o, es, ep, h1, h2, h3, h4, fun x hx => ?_, h5⟩
 have all : ∀ {l : List (List Key × V)} {m : List (List Key × Addr × Value)}, KT H l m → ∀ x ∈ m, (tupleKind (mixKind P w)).is h x.1 x.2.1 := by
  intro l m q
  induction q with
  | nil => intro x hx; exact nomatch hx
  | @cons p q ps qs hq t ih =>
   intro x hx
   rcases List.mem_cons.mp hx with e | hx
   ·subst e
    exact key_of ok (by rw [← hq.1]; exact hq.2.1)
   ·exact ih x hx
 exact all r x hx
theorem dt_of {kvs : List (List Key × V)} (ok : HOk P w H h) (e : H a = some (.dT kvs)) : kvs.length ≤ sizeLine ∧ (a == sysModules) = false ∧
  ∃ xs, KT H kvs xs ∧ h.DictOfH (tupleKind (mixKind P w)) a xs := dt_rd ok (.inl e)
end
noncomputable def DGet (H : Hp) (a : Addr) (y : V) (r : Option V) : Prop :=
 (∃ kvs k, Rd H a (.dK kvs) ∧ y = kV k ∧ r = valV kvs k) ∨ ∃ kvs k b, Rd H a (.dT kvs) ∧ y = .ref b ∧ H b = some (.tup (k.map kV)) ∧ r = valV kvs k
noncomputable def DPut (H : Hp) (a : Addr) (y v : V) (H' : Hp) : Prop :=
 (∃ kvs k, H a = some (.dK kvs) ∧ y = kV k ∧ kvs.length < sizeLine ∧ H' = upd H a (.dK (putK kvs k v))) ∨
 ∃ kvs k b, H a = some (.dT kvs) ∧ y = .ref b ∧ H b = some (.tup (k.map kV)) ∧ kvs.length < sizeLine ∧ H' = upd H a (.dT (putK kvs k v))
theorem DGet.k {H : Hp} {a : Addr} {kvs : List (Key × V)} {k : Key} (e : H a = some (.dK kvs)) : DGet H a (kV k) (valV kvs k) := .inl ⟨kvs, k, .inl e, rfl, rfl⟩
theorem DPut.k {H : Hp} {a : Addr} {kvs : List (Key × V)} {k : Key} {v : V} (e : H a = some (.dK kvs)) (hl : kvs.length < sizeLine) : DPut H a (kV k) v (upd H a (.dK (putK kvs k v))) := .inl ⟨kvs, k, e, rfl, hl, rfl⟩
section
variable {X : Cx} {pins : List (Addr × Obj)} {σ : St} {H : Hp} {s : Shared} {a : Addr} {y v : V} {u r : Value} {o : Option V} {A : Around} {E : Value → Shared → Prop}
theorem Inv.big (I : Inv X pins σ H s) : sysModules < s.heap.objs.size := by
 have h : mainGlobals < s.heap.objs.size := (I.mod.glob.keeps I.bk).lt
 exact Nat.lt_trans (by decide) h
theorem d_getItem {Q : Value → Shared → Prop} (hu : A.units + 1 < cLine) (I : Inv X pins σ H s) (g : DGet H a y (some v)) (ry : RelV y u) (h : ∀ w' s', Inv X pins σ H s' → RelV v w' → Q w' s') :
  wpAny (model X.prog X.w) A (getItem (.ref a) u) Q E s := by
 rcases g with ⟨kvs, k, e, ey, l⟩ | ⟨kvs, k, b, e, ey, eb, l⟩
 ·subst ey
  obtain ⟨z, hd, vs, rel, dd⟩ := dk_rd I.hok e
  obtain ⟨w', hw, rw'⟩ := RelO.some_of (v := v) (o := valueAt vs k) (by rw [l]; exact rel.val k)
  exact wpAny_getItem_of (kV_is ry) dd.mapOf hw (h w' _ (I.tok _) rw')
 ·subst ey
  cases (show u = Value.ref b from ry)
  obtain ⟨z, hd, xs, rel, dd⟩ := dt_rd I.hok e
  obtain ⟨w', hw, rw'⟩ := RelO.some_of (v := v) (o := (atKey xs k).map (·.2)) (by rw [l]; exact rel.val k)
  obtain ⟨p, hp, hp2⟩ := Option.map_eq_some_iff.mp hw
  refine wpAny_getItem_heap (tupleKind_room_in1 hu) (key_of I.hok eb) dd hp ?_
  rw [hp2]
  exact h w' _ (I.tok _) rw'
theorem d_in {Q : Value → Shared → Prop} (hu : A.units + 1 < cLine) (I : Inv X pins σ H s) (g : DGet H a y o) (ry : RelV y u) (h : ∀ s', Inv X pins σ H s' → Q (.bool o.isSome) s') :
  wpAny (model X.prog X.w) A (compareOp .In u (.ref a)) Q E s := by
 rcases g with ⟨kvs, k, e, ey, l⟩ | ⟨kvs, k, b, e, ey, eb, l⟩
 ·subst ey
  obtain ⟨z, hd, vs, rel, dd⟩ := dk_rd I.hok e
  refine wpAny_in_of (kV_is ry) hd dd.mapOf ?_
  rw [← (rel.val k).isSome_eq, ← l]
  exact h _ (I.tok _)
 ·subst ey
  cases (show u = Value.ref b from ry)
  obtain ⟨z, hd, xs, rel, dd⟩ := dt_rd I.hok e
  refine wpAny_in_heap (tupleKind_room_in1 hu) (key_of I.hok eb) hd dd ?_
  have q := (rel.val k).isSome_eq
  rw [Option.isSome_map] at q
  rw [← q, ← l]
  exact h _ (I.tok _)
theorem d_write {h' : Heap} {t' : Nat} {ob : HO} (I : Inv X pins σ H s) (mu : Mut (H a)) (hs : Heap.SameBut a s.heap h') (he : ∃ q, h'.get? a = some q) (new : ObjOk X.prog X.w (upd H a ob) h' a ob) :
  Inv X pins σ (upd H a ob) { s with heap := h', toks := t' } :=
 I.write (x := a) (e := a) mu (.inl rfl) (fun b q hb z => (hs.2 b hb).trans z) he new
theorem dk_new {P : Program} {w : World} {H' : Hp} {h' : Heap} {kvs : List (Key × V)} {vs : List (Key × Value)} (z : kvs.length ≤ sizeLine) (hd : (a == sysModules) = false) (rel : KV kvs vs) (dd : h'.DictOf (mixKind P w) a vs) :
  ObjOk P w H' h' a (.dK kvs) := ⟨z, hd, vs, rel, dd⟩
theorem d_setItem {H' : Hp} {Q : Unit → Shared → Prop} (hu : A.units + 1 < cLine) (I : Inv X pins σ H s) (g : DPut H a y v H') (ry : RelV y u) (rv : RelV v r) (h : ∀ s', Inv X pins σ H' s' → Q () s') :
  wpAny (model X.prog X.w) A (setItem (.ref a) u r) Q E s := by
 rcases g with ⟨kvs, k, e, ey, l, eH⟩ | ⟨kvs, k, b, e, ey, eb, l, eH⟩
 ·subst ey eH
  obtain ⟨z, hd, vs, rel, dd⟩ := dk_of I.hok e
  have hz : vs.length ≤ sizeLine := by rw [← rel.length]; exact z
  have hl : (putK kvs k v).length ≤ sizeLine := by have := length_putK kvs k v; omega
  refine wpAny_setItem_pairs (hsz := hz) (kV_is ry) dd fun h' dd' hs => h _ ?_
  have he : ∃ q, h'.get? a = some q := let ⟨q, _, _, hq, _⟩ := dd'; ⟨q, hq⟩
  exact d_write I (by rw [e]; exact True.intro) hs he (dk_new hl hd (rel.put k rv) dd')
 ·subst ey eH
  cases (show u = Value.ref b from ry)
  obtain ⟨z, hd, xs, rel, dd⟩ := dt_of I.hok e
  have hz : xs.length ≤ sizeLine := by rw [← Paired.length rel]; exact z
  have hl : (putK kvs k v).length ≤ sizeLine := by have := length_putK kvs k v; omega
  refine wpAny_setItem_heap (hsz := hz) (tupleKind_room_in1 hu) (key_of I.hok eb) dd fun h' dd' hs => h _ ?_
  obtain ⟨q, es, ep, hq, h2, h3, h4, _, h5⟩ := dd'
  refine d_write I (by rw [e]; exact True.intro) hs ⟨q, hq⟩ ⟨hl, hd, _, (rel.put k eb rv).keeps fun c ys ec => ?_, q, es, ep, hq, h2, h3, h4, h5⟩
  rw [upd_ne (ne_of ec e (fun z => nomatch z))]
  exact ec
end
section
variable {X : Cx} {pins : List (Addr × Obj)} {σ : St} {H : Hp} {s : Shared} {a : Addr} {kvs : List (Key × V)} {k : Key} {u : Value} {A : Around} {E : Value → Shared → Prop}
end
noncomputable def NoSl (i : Expr) : Prop := ∀ ov iv, subscripted i false ov iv = operate [ov, iv] (getItem ov iv)
theorem subD_of {prog : Program} {w : World} {A : Around} {E : Value → Shared → Prop} {s : Shared} {env : Env} {value slice : Expr} {pos : Pos} {T id : String} {Q : Value → Shared → Prop}
  (hl : typeLookup (.type T) "__getitem__" = pure (some (.builtin id))) (hs : NoSl slice)
  (h : wpAny (model prog w) A (eval value env) (fun o s₁ => wpAny (model prog w) A (eval slice env) (fun i s₂ => s₂.TypeIs o T ∧ wpAny (model prog w) A (getItem o i) Q E s₂) E s₁) E s) :
  wpAny (model prog w) A (eval (.Subscript value slice pos) env) Q E s := by
 refine Subscript_ (wpAny_mono h (fun o s₁ h₁ => wpAny_mono h₁ (fun i s₂ h₂ => ?_) fun _ _ x => x) fun _ _ x => x)
 obtain ⟨hT, h₂⟩ := h₂
 unfold subscriptTail
 refine wpAny_bind ?_
 rw [getitemInPython_of_ne hT.not_modules]
 refine wpAny_bind (wpAny_specialOf hT hl ?_)
 have fin : wpAny (model prog w) A (subscripted slice false o i) (fun r s₃ => wpAny (model prog w) A (letTemporaryGo value o r >>= fun _ => pure r) Q E s₃) E s₂ := by
  rw [hs o i]
  exact wpAny_operating (wpAny_mono h₂ (fun r s₃ h₃ => wpAny_bind (wpAny_letTemporaryGo (wpAny_pure h₃))) fun _ _ x => x)
 first
  | exact wpAny_pure (wpAny_bind fin)
  | exact wpAny_bind (wpAny_pure (wpAny_bind fin))
  | exact wpAny_bind fin
theorem dict_typeIs {X : Cx} {pins : List (Addr × Obj)} {σ : St} {H : Hp} {s : Shared} {a : Addr} {y : V} {o : Option V} (I : Inv X pins σ H s) (g : DGet H a y o) : s.TypeIs (.ref a) "dict" := by
 rcases g with ⟨kvs, k, e, _, _⟩ | ⟨kvs, k, b, e, _, _, _⟩
 ·obtain ⟨_, _, vs, _, dd⟩ := dk_rd I.hok e
  exact dd.typeIs
 ·obtain ⟨_, _, xs, _, dd⟩ := dt_rd I.hok e
  exact dd.typeIs
noncomputable def tDGet (td ty : TE) : TE := fun σ H Q => td σ H fun x H1 => ty σ H1 fun y H2 => ∃ a v, x = .ref a ∧ DGet H2 a y (some v) ∧ Q v H2
noncomputable def tDIn (ty td : TE) : TE := fun σ H Q => ty σ H fun y H1 => td σ H1 fun x H2 => ∃ a o, x = .ref a ∧ DGet H2 a y o ∧ Q (.bl o.isSome) H2
noncomputable def sDPut (td ty tv : TE) : TS := fun D σ H => tv σ H fun v H1 => td σ H1 fun x H2 => ty σ H2 fun y H3 => ∃ a H4, x = .ref a ∧ DPut H3 a y v H4 ∧ D.nx σ H4
section
variable {X : Cx} {o i e value : Expr} {pos pos' tpos : Pos} {td ty tv : TE}
theorem pe_dget (hu : X.A.units + 1 < cLine) (ho : PE X o td) (hi : PE X i ty) (hs : NoSl i) : PE X (.Subscript o i pos) (tDGet td ty) := by
 intro pins s σ H Q I h
 refine subD_of PySem.F.slot_dict_getitem.lookup hs (thn (ho pins s σ H _ I h) fun u s1 ⟨x, H1, I1, rx, q1⟩ => thn (hi pins s1 σ H1 _ I1 q1) fun iv s2 ⟨y, H2, I2, ry, a, v, ex, g, q2⟩ => ?_)
 subst ex
 obtain rfl : u = Value.ref a := rx
 exact ⟨dict_typeIs I2 g, d_getItem hu I2 g ry fun w' s3 I3 rw' => ⟨v, H2, I3, rw', q2⟩⟩
theorem pc_din (hu : X.A.units + 1 < cLine) (hi : PE X i ty) (ho : PE X o td) : PC X .In i o (tDIn ty td) := by
 intro pins s σ H Q I h
 refine thn (hi pins s σ H _ I h) fun iv s1 ⟨y, H1, I1, ry, q1⟩ => thn (ho pins s1 σ H1 _ I1 q1) fun u s2 ⟨x, H2, I2, rx, a, ov, ex, g, q2⟩ => ?_
 subst ex
 obtain rfl : u = Value.ref a := rx
 exact d_in hu I2 g ry fun s3 I3 => ⟨.bl ov.isSome, H2, I3, rfl, q2⟩
theorem ps_dput (hu : X.A.units + 1 < cLine) (ho : PE X o td) (hi : PE X i ty) (hv : PE X value tv) (hs : swapsWith value (some (.Subscript o i pos')) pos.line X.env = pure false) :
  PS X (.Assign [.Subscript o i pos'] value pos) (sDPut td ty tv) := by
 intro pins s σ H D I h
 refine wpAny_Assign_Subscript (thn (hv pins s σ H _ I h) fun r s1 ⟨v, H1, I1, rv, q1⟩ => thn (ho pins s1 σ H1 _ I1 q1) fun u s2 ⟨x, H2, I2, rx, q2⟩ => thn (hi pins s2 σ H2 _ I2 q2) fun iv s3 ⟨y, H3, I3, ry, a, H4, ex, g, q3⟩ => ?_) hs
 subst ex
 obtain rfl : u = Value.ref a := rx
 exact d_setItem hu I3 g ry rv fun s4 I4 => ⟨σ, H4, I4, q3⟩
end
theorem dk_empty {P : Program} {w : World} {H : Hp} (h : Heap) (hb : sysModules < h.objs.size) : ObjOk P w H (h.push { cls := .type "dict", data := .dict #[] }) h.objs.size (.dK []) :=
 ⟨Nat.zero_le _, beq_eq_false_iff_ne.mpr (Ne.symm (Nat.ne_of_lt hb)), [], .nil, Heap.DictOf.new h⟩
noncomputable def tDNewK : TE := fun _ H Q => ∀ p, H p = none → Q (.ref p) (upd H p (.dK []))
section
variable {X : Cx} {pos : Pos}
theorem pe_dnewK : PE X (.Dict [] [] pos) tDNewK := fun pins s σ H Q I h =>
 wpAny_Dict_empty ⟨.ref s.heap.objs.size, _, I.laid (a := s.heap.objs.size) (o := .dK []) (t' := s.toks) (fun _ _ q => Heap.get?_push_of_some _ q) (Nat.le_refl _) (dk_empty s.heap I.big), rfl, h _ (I.hok.fresh (Nat.le_refl _))⟩
end
noncomputable def tPairs : List (TE × TE) → St → Hp → (List (V × V) → Hp → Prop) → Prop
 | [], _, H, Q => Q [] H
 | (tk, tv) :: r, σ, H, Q => tk σ H fun x H1 => tv σ H1 fun y H2 => tPairs r σ H2 fun ps H3 => Q ((x, y) :: ps) H3
noncomputable abbrev VV : List (V × V) → List (Value × Value) → Prop := Paired fun p q => RelV p.1 q.1 ∧ RelV p.2 q.2
noncomputable def PPs (X : Cx) (pos : Pos) (keys : List (Option Expr)) (values : List Expr) (trs : List (TE × TE)) : Prop :=
 ∀ (pins : List (Addr × Obj)) (s : Shared) (σ : St) (H : Hp) (Q : List (V × V) → Hp → Prop), Inv X pins σ H s → tPairs trs σ H Q →
  wpAny (model X.prog X.w) X.A (evalPairs (pairTrees keys values X.env pos)) (fun vs s' => ∃ ps H', Inv X pins σ H' s' ∧ VV ps vs ∧ Q ps H') X.xe s
theorem pps_nil {X : Cx} {pos : Pos} : PPs X pos [] [] [] := fun pins s σ H Q I h => pairTrees_nil_walk ⟨[], H, I, .nil, h⟩
theorem pps_cons {X : Cx} {pos : Pos} {k v : Expr} {ks : List (Option Expr)} {vs : List Expr} {tk tv : TE} {trs : List (TE × TE)} (hk : PE X k tk) (hv : PE X v tv) (hr : PPs X pos ks vs trs) :
  PPs X pos (some k :: ks) (v :: vs) ((tk, tv) :: trs) := fun pins s σ H Q I h =>
 pairTrees_cons_walk (thn (hk pins s σ H _ I h) fun u s1 ⟨x, H1, I1, rx, q1⟩ => thn (hv pins s1 σ H1 _ I1 q1) fun w2 s2 ⟨y, H2, I2, ry, q2⟩ =>
  thn (hr pins s2 σ H2 _ I2 q2) fun ws s3 ⟨ps, H3, I3, rel, q3⟩ => ⟨(x, y) :: ps, H3, I3, .cons ⟨rx, ry⟩ rel, q3⟩)
noncomputable def mergeK (kvs more : List (Key × V)) : List (Key × V) := more.foldl (fun acc kv => putK acc kv.1 kv.2) kvs
theorem KV.merge : ∀ {more : List (Key × V)} {rs : List (Key × Value)} {kvs : List (Key × V)} {vs : List (Key × Value)}, KV more rs → KV kvs vs → KV (mergeK kvs more) (merged vs rs) := by
 intro more rs kvs vs r
 unfold KV at r
 induction r generalizing kvs vs with
 | nil => intro q; exact q
 | @cons p q ps qs h t ih =>
  intro r0
  have e : KV (putK kvs p.1 p.2) (stored vs q.1 q.2) := by
   have := r0.put p.1 h.2
   rw [← h.1]; exact this
  exact ih e
theorem length_mergeK : ∀ (more kvs : List (Key × V)), (mergeK kvs more).length ≤ kvs.length + more.length
 | [], kvs => by show kvs.length ≤ kvs.length + 0; omega
 | p :: r, kvs => by
  have h1 := length_mergeK r (putK kvs p.1 p.2)
  have h2 := length_putK kvs p.1 p.2
  show (mergeK (putK kvs p.1 p.2) r).length ≤ _
  rw [List.length_cons]; omega
theorem carries_of {P : Program} {w : World} : ∀ {kvs : List (Key × V)} {ws : List (Value × Value)}, VV (kvs.map fun kv => (kV kv.1, kv.2)) ws → ∃ rs, Carries (mixKind P w) ws rs ∧ KV kvs rs
 | [], _, r => by rw [List.map_nil] at r; cases r; exact ⟨[], True.intro, .nil⟩
 | p :: kvs, _, r => by
  rw [List.map_cons] at r
  cases r with
  | @cons a b as bs h t =>
   obtain ⟨rs, c, q⟩ := carries_of (P := P) (w := w) t
   obtain ⟨b1, b2⟩ := b
   exact ⟨(p.1, b2) :: rs, ⟨kV_is h.1, rfl, c⟩, .cons ⟨rfl, h.2⟩ q⟩
noncomputable def tDisp (trs : List (TE × TE)) : TE := fun σ H Q => ∀ p, H p = none → tPairs trs σ (upd H p (.dK [])) fun ps H2 => H2 p = some (.dK []) ∧ ∃ kvs : List (Key × V), ps = kvs.map (fun kv => (kV kv.1, kv.2)) ∧ kvs.length ≤ 15 ∧ Q (.ref p) (upd H2 p (.dK (mergeK [] kvs)))
theorem pe_disp {X : Cx} {pos : Pos} {keys : List (Option Expr)} {values : List Expr} {trs : List (TE × TE)} (h : PPs X pos keys values trs) (hall : keys.all (·.isSome) = true) (hl : keys.length = values.length) (h0 : keys ≠ [])
  (h15 : keys.length ≤ 15) : PE X (.Dict keys values pos) (tDisp trs) := by
 intro pins s σ H Q I q
 have hn := I.hok.fresh (Nat.le_refl s.heap.objs.size)
 have I1 := I.laid (a := s.heap.objs.size) (o := .dK []) (h' := s.heap.push { cls := .type "dict", data := .dict #[] }) (t' := s.toks) (fun _ _ q => Heap.get?_push_of_some _ q) (Nat.le_refl _) (dk_empty s.heap I.big)
 refine wpAny_Dict_walk (knd := mixKind X.prog X.w) hall hl h0 h15 (thn (h pins _ σ _ _ I1 (q _ hn)) fun ws s2 ⟨ps, H2, I2, rel, e, kvs, ep, lk, q2⟩ => ?_)
 subst ep
 obtain ⟨rs, c, rk⟩ := carries_of (P := X.prog) (w := X.w) rel
 obtain ⟨z, hd, vs0, r0, dd⟩ := dk_of I2.hok e
 cases r0
 refine ⟨rs, c, dd, fun h' dd' hs => ⟨.ref s.heap.objs.size, _, ?_, rfl, q2⟩⟩
 have hz : (mergeK [] kvs).length ≤ sizeLine := by
  have h1 := length_mergeK kvs []
  rw [List.length_nil] at h1
  rw [sizeLine_eq]; omega
 have he : ∃ q, h'.get? s.heap.objs.size = some q := let ⟨q, _, _, hq, _⟩ := dd'; ⟨q, hq⟩
 exact d_write I2 (by rw [e]; exact True.intro) hs he (dk_new hz hd (rk.merge .nil) dd')
structure M1 (X : Cx) (o : Expr) (m : Str) (apos : Pos) (e : Expr) (cpos : Pos) : Prop where
 base : attributeBase o m X.env (eval o X.env) = eval o X.env
 few : ((backTo cpos (starEach [e] X.env)).all (fun x => !x.1) && (backToKw cpos (keywordEach [] X.env)).all (fun x => x.1.isSome)
  && decide (([e] : List Expr).length + ([] : List Keyword).length + (if ([] : List Keyword).isEmpty then 0 else 1) < 30)) = true
 line : (apos.endLine == cpos.line) = true
 trees : backTo cpos (starEach [e] X.env) = [(false, eval e X.env)]
structure M2 (X : Cx) (o : Expr) (m : Str) (apos : Pos) (e f : Expr) (cpos : Pos) : Prop where
 base : attributeBase o m X.env (eval o X.env) = eval o X.env
 few : ((backTo cpos (starEach [e, f] X.env)).all (fun x => !x.1) && (backToKw cpos (keywordEach [] X.env)).all (fun x => x.1.isSome)
  && decide (([e, f] : List Expr).length + ([] : List Keyword).length + (if ([] : List Keyword).isEmpty then 0 else 1) < 30)) = true
 line : (apos.endLine == cpos.line) = true
 trees : backTo cpos (starEach [e, f] X.env) = [(false, eval e X.env), (false, eval f X.env)]
section
variable {X : Cx} {pins : List (Addr × Obj)} {σ : St} {H : Hp} {s : Shared} {a : Addr} {y d : V} {u r : Value} {o : Option V} {A : Around} {E : Value → Shared → Prop}
end
section
variable {X : Cx} {o e f : Expr} {apos cpos : Pos} {td ty tx : TE}
end
section
variable {X : Cx} {pins : List (Addr × Obj)} {σ : St} {H : Hp} {s : Shared} {a : Addr} {kvs : List (Key × V)} {A : Around} {E : Value → Shared → Prop}
end
section
variable {X : Cx} {pins : List (Addr × Obj)} {σ : St} {H : Hp} {s : Shared} {a : Addr} {y : V} {u : Value} {A : Around} {E : Value → Shared → Prop}
end
end L2
namespace L2
open PySem PySem.Spec PyProof.Rows
section
variable {X : Cx}
end
section
variable {κ : Type} [DecidableEq κ]
end
end L2
namespace L2
open PySem PySem.Spec PyProof.Rows
theorem compLoopT {prog : Program} {w : World} {A : Around} {R : Result → Shared → Prop} {s : Shared} {elt target iter : Expr} {ifs : List Expr} {scope : Scope} {pos : Pos} {it acc : Value} {env : Env} (I : Nat → Shared → Prop)
  (turn : ∀ n s, I n s → wpAny (model prog w) A (pyNext it) (fun r s₁ => match r with
   | none => R (.ok .next) s₁
   | some v => wpAny (model prog w) A (letOwnedTupleGo target it v) (fun _ s₂ => wpAny (model prog w) A (assign target env v) (fun _ s₃ =>
     wpAny (model prog w) A (forIn ifs true fun c r => if r = true then do let ok ← isTrue c env (eval c env); pure (ForInStep.yield ok) else pure (ForInStep.yield r)) (fun ok s₄ =>
      if ok = true then wpAny (model prog w) A (eval elt env) (fun x s₅ =>
       wpAny (model prog w) A (call (.builtin "list.append") [acc, x]) (fun _ s₆ => ∃ m, m < n ∧ I m s₆) (fun _ _ => False) s₅) (fun _ _ => False) s₄
      else ∃ m, m < n ∧ I m s₄) (fun _ _ => False) s₃) (fun _ _ => False) s₂) (fun _ _ => False) s₁) (fun _ _ => False) s)
  (n : Nat) (h : I n s) :
  codeAny (model prog w) A (.compLoop (.ListComp elt [⟨target, iter, ifs, 0⟩] scope pos) 0 it acc env) R s := by
 refine codeAny_loop rfl I (fun n s hI => ?_) n h
 show wpAny _ A ((compTurn (.ListComp elt [⟨target, iter, ifs, 0⟩] scope pos) 0 it acc env).onRaise (fun x => do noteFrame x env; theTreesLotGoes x)) _ _ s
 refine wpAny_noted ?_
 rw [compTurn_list]
 refine wpAny_bind (wpAny_standAt (wpAny_bind (wpAny_mono (turn n s hI) (fun r s₁ h₁ => ?_) fun _ _ h' => h'.elim)))
 cases r with
 | none => exact wpAny_pure h₁
 | some v =>
  refine wpAny_bind (wpAny_mono h₁ (fun _ s₂ h₂ => ?_) fun _ _ h' => h'.elim)
  refine wpAny_bind (wpAny_mono h₂ (fun _ s₃ h₃ => wpAny_bind (wpAny_mono h₃ (fun ok s₄ h₄ => ?_) fun _ _ h' => h'.elim)) fun _ _ h' => h'.elim)
  cases ok with
  | false => exact wpAny_pure ⟨rfl, h₄⟩
  | true =>
   exact wpAny_bind (wpAny_bind (wpAny_mono h₄ (fun x s₅ h₅ => wpAny_bind (wpAny_mono h₅ (fun _ s₆ h₆ => wpAny_pure (wpAny_pure ⟨rfl, h₆⟩)) fun _ _ h' => h'.elim)) fun _ _ h' => h'.elim))
noncomputable def PF (X : Cx) (ifs : List Expr) (t : TT) : Prop :=
 ∀ (pins : List (Addr × Obj)) (s : Shared) (σ : St) (H : Hp) (Q : Bool → Hp → Prop), Inv X pins σ H s → t σ H Q →
  wpAny (model X.prog X.w) X.A (forIn ifs true fun c r => if r = true then do let ok ← isTrue c X.env (eval c X.env); pure (ForInStep.yield ok) else pure (ForInStep.yield r)) (TP X pins σ Q) X.xe s
noncomputable def tYes : TT := fun _ H Q => Q true H
theorem pf_nil {X : Cx} : PF X [] tYes := fun _ _ _ H _ I h => wpAny_tests_nil ⟨H, I, h⟩
theorem pf_one {X : Cx} {c : Expr} {t : TT} (hc : PT X c t) : PF X [c] t := fun pins s σ H Q I h => wpAny_tests_one (hc pins s σ H Q I h)
noncomputable def closL (env : Env) : List (Str × NameKind) → List (Str × Addr) → List (Str × Addr)
 | [], acc => acc
 | (n, k) :: r, acc => closL env r (if k == .free then (n, (env.cells.lookup n).getD 0) :: acc else acc)
theorem closureFor_L {scope : Scope} {env : Env} (h : ∀ y ∈ scope.names, y.2 = .free → ∃ c, env.cells.lookup y.1 = some c) : closureFor scope env = pure (closL env scope.names []) := by
 have go : ∀ (names : List (Str × NameKind)) (acc : List (Str × Addr)), (∀ y ∈ names, y.2 = .free → ∃ c, env.cells.lookup y.1 = some c) →
   (forIn (m := Sem) names acc fun x r => (match x with | (name, kind) => if (kind == .free) = true then do let a ← cellOf env name; pure (ForInStep.yield ((name, a) :: r)) else pure (ForInStep.yield r))) = pure (closL env names acc) := by
  intro names
  induction names with
  | nil => intro acc _; rfl
  | cons y r ih =>
   obtain ⟨n, k⟩ := y
   intro acc hh
   rw [List.forIn_cons]
   cases hk : (k == NameKind.free) with
   | true =>
    have hk' : k = .free := by simpa using hk
    obtain ⟨c, hc⟩ := hh (n, k) List.mem_cons_self hk'
    have ec : cellOf env n = pure c := by unfold cellOf; rw [hc]
    simp only [hk, if_true, ec, pure_bind, closL, hc, Option.getD_some]
    exact ih _ fun y hy => hh y (List.mem_cons_of_mem _ hy)
   | false =>
    simp only [hk, Bool.false_eq_true, if_false, pure_bind, closL]
    exact ih _ fun y hy => hh y (List.mem_cons_of_mem _ hy)
 have g := go scope.names [] h
 unfold closureFor
 simp only [g, pure_bind]
theorem closL_sub {env : Env} : ∀ (names : List (Str × NameKind)) (acc : List (Str × Addr)), (∀ y ∈ names, y.2 = .free → ∃ c, env.cells.lookup y.1 = some c) → (∀ x c, acc.lookup x = some c → env.cells.lookup x = some c) →
  ∀ x c, (closL env names acc).lookup x = some c → env.cells.lookup x = some c
 | [], _, _, ha, x, c, h => ha x c h
 | (n, k) :: r, acc, hh, ha, x, c, h => by
  refine closL_sub r _ (fun y hy => hh y (List.mem_cons_of_mem _ hy)) (fun x c e => ?_) x c h
  cases hk : (k == NameKind.free) with
  | false => rw [hk] at e; exact ha x c e
  | true =>
   rw [hk] at e
   have hk' : k = .free := by simpa using hk
   obtain ⟨c', hc⟩ := hh (n, k) List.mem_cons_self hk'
   simp only [if_true, hc, Option.getD_some] at e
   rw [List.lookup_cons] at e
   cases hx : (x == n) with
   | true =>
    rw [hx] at e
    have : x = n := by simpa using hx
    rw [this, hc]; exact e
   | false => rw [hx] at e; exact ha x c e
theorem closL_acc {env : Env} : ∀ (names : List (Str × NameKind)) (acc : List (Str × Addr)) (x : Str), (∃ c, acc.lookup x = some c) → ∃ c, (closL env names acc).lookup x = some c
 | [], _, _, h => h
 | (n, k) :: r, acc, x, h => by
  refine closL_acc r _ x ?_
  cases hk : (k == NameKind.free) with
  | false => exact h
  | true =>
   simp only [if_true]
   rw [List.lookup_cons]
   cases hx : (x == n) with
   | true => exact ⟨_, rfl⟩
   | false => exact h
theorem closL_has {env : Env} : ∀ (names : List (Str × NameKind)) (acc : List (Str × Addr)) (x : Str), (x, NameKind.free) ∈ names → ∃ c, (closL env names acc).lookup x = some c
 | [], _, _, h => by simp at h
 | (n, k) :: r, acc, x, h => by
  rcases List.mem_cons.mp h with e | h
  ·cases e
   refine closL_acc r _ _ ?_
   simp
  ·exact closL_has r _ x h
theorem lookup_relabel {env : Env} : ∀ {names : List (Str × NameKind)} {x : Str} {k : NameKind}, (names.map fun (n, k) => if (k == NameKind.free && env.scope.kind == .function && env.kindOf n == some .cell) then (n, NameKind.cell) else (n, k)).lookup x = some k →
  ∃ k', (x, k') ∈ names ∧ names.lookup x = some k' ∧ (k' = k ∨ (k' = .free ∧ k = .cell))
 | [], _, _, h => by simp at h
 | (n, k₀) :: r, x, k, h => by
  have ih := @lookup_relabel env r x k
  rw [List.map_cons] at h
  dsimp only at h
  cases hx : x == n with
  | true =>
   have e : x = n := by simpa using hx
   subst e
   refine ⟨k₀, List.mem_cons_self, by simp, ?_⟩
   by_cases hc : (k₀ == NameKind.free && env.scope.kind == .function && env.kindOf x == some .cell) = true
   ·rw [if_pos hc] at h
    simp only [List.lookup_cons, beq_self_eq_true] at h
    simp only [Bool.and_eq_true, beq_iff_eq] at hc
    exact .inr ⟨hc.1.1, (Option.some.inj h).symm⟩
   ·rw [if_neg hc] at h
    simp only [List.lookup_cons, beq_self_eq_true] at h
    exact .inl (Option.some.inj h)
  | false =>
   have h' : (r.map fun (n, k) => if (k == NameKind.free && env.scope.kind == .function && env.kindOf n == some .cell) then (n, NameKind.cell) else (n, k)).lookup x = some k := by
    by_cases hc : (k₀ == NameKind.free && env.scope.kind == .function && env.kindOf n == some .cell) = true
    ·rw [if_pos hc] at h; simpa only [List.lookup_cons, hx] using h
    ·rw [if_neg hc] at h; simpa only [List.lookup_cons, hx] using h
   obtain ⟨k', h1, h2, h3⟩ := ih h'
   exact ⟨k', List.mem_cons_of_mem _ h1, by simpa only [List.lookup_cons, hx] using h2, h3⟩
noncomputable def blk (X : Cx) (scope : Scope) (ow : List Str) (ci : List Nat) (C : Addr) (s₀ : Shared) (H₀ : Hp) (ex : List Addr) (pn : List (Addr × Obj)) : Cx :=
 { X with N := ow ++ ci.map fun j => X.N.getD j "", s₀ := s₀, H₀ := H₀, env := compEnvC scope (closL X.env scope.names []) C X.env, outer := X.stack, stack := X.stack, ex := ex, fn := fun _ => false, pn := pn, xe := fun _ _ => False }
structure CompScope (X : Cx) (scope : Scope) (ow : List Str) (ci : List Nat) : Prop where
 kind : scope.kind = .function
 cell : ∀ y ∈ scope.names, y.2 ≠ .cell
 names : ∀ y ∈ scope.names, y.2 = .local → scope.names.lookup y.1 = some .local
 free : ∀ y ∈ scope.names, y.2 = .free → X.env.kindOf y.1 = some .cell ∨ X.env.kindOf y.1 = some .free
 ix : ∀ j ∈ ci, j < X.N.length ∧ scope.names.lookup (X.N.getD j "") = some .free
noncomputable def compOk (fsc : Scope) (N : List Str) (scope : Scope) (ci : List Nat) : Bool :=
 scope.kind == .function && scope.names.all (fun y => y.2 != .cell) && scope.names.all (fun y => y.2 != .local || scope.names.lookup y.1 == some .local) &&
 scope.names.all (fun y => y.2 != .free || fsc.names.lookup y.1 == some .cell || fsc.names.lookup y.1 == some .free) && ci.all (fun j => decide (j < N.length) && scope.names.lookup (N.getD j "") == some .free)
theorem CompScope.of {X : Cx} {scope : Scope} {ow : List Str} {ci : List Nat} (fsc : Scope) (N : List Str) (e1 : X.env.scope = fsc) (e2 : X.N = N) (h : compOk fsc N scope ci = true) : CompScope X scope ow ci := by
 subst e1 e2
 unfold compOk at h
 simp only [Bool.and_eq_true, List.all_eq_true, Bool.or_eq_true, bne_iff_ne, ne_eq, beq_iff_eq, decide_eq_true_eq] at h
 obtain ⟨⟨⟨⟨h1, h2⟩, h3⟩, h4⟩, h5⟩ := h
 refine ⟨h1, h2, fun y hy e => ?_, fun y hy e => ?_, fun j hj => h5 j hj⟩
 ·rcases h3 y hy with z | z
  ·exact absurd e z
  ·exact z
 ·rcases h4 y hy with (z | z) | z
  ·exact absurd e z
  ·exact .inl z
  ·exact .inr z
theorem blk_nd {X : Cx} {scope : Scope} {ow : List Str} {ci : List Nat} {C : Addr} {s₀ : Shared} {H₀ : Hp} {ex : List Addr} {pn : List (Addr × Obj)} (N : List Str) (e : X.N = N) (h : (ow ++ ci.map fun j => N.getD j "").Nodup) : (blk X scope ow ci C s₀ H₀ ex pn).N.Nodup := by
 subst e
 exact h
noncomputable def capAt (σ : St) (j : Nat) : Option V := match σ[j]? with | some o => o | none => none
noncomputable def capS (n : Nat) (ci : List Nat) (σ : St) : St := List.replicate n none ++ ci.map (capAt σ)
noncomputable def tComp (wi : TI) (n : Nat) (ci : List Nat) (g : TG) (tf : TT) (te : TE) : TE := fun σ H Q => wi σ H fun J H1 => ∃ W : Nat → Nat → List V → Hp → Prop, (∃ m, W 0 m [] H1) ∧ ∀ i m ys H, W i m ys H →
 (J.stop i H ∧ ys.length ≤ sizeLine ∧ ∀ p, H p = none → Q (.ref p) (upd H p (.lst ys))) ∨
 (J.go i H ∧ ∃ N : List V → Hp → Prop, (∀ ys' H', N ys' H' → ∃ m', m' < m ∧ W (i + 1) m' ys' H') ∧ ∀ x H', J.yld i H x H' → g x (capS n ci σ) H' fun σ2 H2 => tf σ2 H2 fun b H3 =>
  if b = true then te σ2 H3 fun v H4 => ys.length < sizeLine ∧ N (ys ++ [v]) H4 else N ys H3)
section
variable {X : Cx} {pins : List (Addr × Obj)} {σ : St} {H : Hp} {s : Shared} {elt iter tg : Expr} {ifs : List Expr} {scope : Scope} {pos : Pos} {ow : List Str} {ci : List Nat} {g : TG} {tf : TT} {te : TE}
theorem CompScope.cells (S : CompScope X scope ow ci) (ok : X.Ok) : ∀ y ∈ scope.names, y.2 = .free → ∃ c, X.env.cells.lookup y.1 = some c := fun y hy e => ok.has y.1 (S.free y hy e)
theorem CompScope.sub (S : CompScope X scope ow ci) (ok : X.Ok) : ∀ x c, (closL X.env scope.names []).lookup x = some c → X.env.cells.lookup x = some c :=
 closL_sub scope.names [] (S.cells ok) fun _ _ e => by simp at e
theorem blk_ok (S : CompScope X scope ow ci) (I : Inv X pins σ H s) {C : Addr} {ex : List Addr} {pn : List (Addr × Obj)} (hC : s.heap.objs.size ≤ C)
  (hex : ∀ b ∈ ex, b < s.heap.objs.size ∧ FpOk X pins H b) : (blk X scope ow ci C s H ex pn).Ok where
 mod := I.ok.mod
 kind := S.kind
 glob := I.ok.glob
 blt := I.ok.blt
 above := hC
 inj := fun x y c h1 h2 => I.ok.inj x y c (S.sub I.ok x c h1) (S.sub I.ok y c h2)
 has := fun x h => by
  have h' : ∃ k, (relabel scope X.env).names.lookup x = some k ∧ (k = .cell ∨ k = .free) := by
   rcases h with h | h
   ·exact ⟨_, h, .inl rfl⟩
   ·exact ⟨_, h, .inr rfl⟩
  obtain ⟨k, hl, hk⟩ := h'
  obtain ⟨k', hm, _, e⟩ := lookup_relabel (env := X.env) hl
  have hf : k' = .free := by
   rcases e with e | ⟨e, _⟩
   ·subst e
    rcases hk with hk | hk
    ·exact absurd hk (S.cell _ hm)
    ·exact hk
   ·exact e
  subst hf
  exact closL_has scope.names [] x hm
 cab := fun x c h _ => by cases h
 hd := I.ok.hd
 frames := I.ok.frames
 stk := .inl rfl
 exf := fun b hb => ⟨Nat.ne_of_lt (Nat.lt_of_lt_of_le (hex b hb).1 hC), fun x c e => (hex b hb).2.2.2.2.2.1 x c (S.sub I.ok x c e)⟩
 bs := I.bs
 bsz := Nat.le_trans I.ok.bsz I.sz
 noex := fun b o e hb => by
  obtain ⟨_, _, _, h3, _⟩ := (hex b hb).2
  rcases h3 with z | z
  ·exact I.ok.noex b o e z
  ·exact absurd (Nat.lt_of_lt_of_le (Heap.lt_size e) (Nat.le_trans I.ok.bsz z)) (Nat.lt_irrefl _)
 exfs := fun b hb z => by
  obtain ⟨_, h1, h2, _⟩ := (hex b hb).2
  rcases List.mem_cons.mp (I.stkSub b z) with e | e
  ·exact h1 e
  ·exact h2 e
 funs := I.stack
 frf := I.stkFree
theorem blk_start (S : CompScope X scope ow ci) (I : Inv X pins σ H s) {C : Addr} {ex : List Addr} {h₁ : Heap} {t₁ : Nat} {m₀ : Str → Option Value} (hC : s.heap.objs.size ≤ C)
  (hex : ∀ b ∈ ex, b < s.heap.objs.size ∧ FpOk X pins H b) (hn : h₁.Ns C m₀) (k : ∀ b o, s.heap.get? b = some o → h₁.get? b = some o) :
  Inv (blk X scope ow ci C s H ex (X.pn ++ pins)) [] (capS ow.length ci σ) H { s with heap := h₁, toks := t₁ } := by
 have ok := blk_ok (pn := X.pn ++ pins) S I hC hex
 refine ⟨ok, rfl, I.bare, Un.kept k, ⟨m₀, hn, fun i x v e1 e2 e3 => ?_⟩, fun x c e => ?_, I.hok.fresh hC, fun x c e => I.freeC x c (S.sub I.ok x c e), fun p hp => ?_, I.hok.kept k, ?_⟩
 ·have e1' : (ow ++ ci.map fun j => X.N.getD j "")[i]? = some x := e1
  unfold capS at e2
  by_cases hi : i < ow.length
  ·rw [List.getElem?_append_left (by simpa using hi), List.getElem?_replicate, if_pos hi] at e2
   cases e2
  ·rw [List.getElem?_append_right (by simpa using hi), List.getElem?_map, List.length_replicate] at e2
   rw [List.getElem?_append_right (by omega), List.getElem?_map] at e1'
   cases hj : ci[i - ow.length]? with
   | none => rw [hj] at e2; cases e2
   | some j =>
    rw [hj] at e1' e2
    obtain ⟨hl, hf⟩ := S.ix j (List.mem_of_getElem? hj)
    have ex' : X.N.getD j "" = x := Option.some.inj e1'
    have eN : X.N[j]? = some x := by
     rw [← ex', List.getD_eq_getElem?_getD, List.getElem?_eq_getElem hl]; rfl
    have ev : σ[j]? = some (some v) := by
     have e2' : capAt σ j = some v := Option.some.inj e2
     unfold capAt at e2'
     cases q : σ[j]? with
     | none => rw [q] at e2'; cases e2'
     | some o => rw [q] at e2'; rw [show o = some v from e2']
    rw [ex'] at hf
    have hmem : (x, NameKind.free) ∈ scope.names := PySem.mem_of_lookup hf
    have hk := S.free _ hmem rfl
    obtain ⟨m, _, hl'⟩ := I.loc
    have vis : Vis X.env.scope x := by
     rcases hk with q | q
     ·exact .inr (.inl q)
     ·exact .inr (.inr q)
    obtain ⟨u, r, lk⟩ := hl' j x v eN ev vis
    refine ⟨u, r, .inr ⟨?_, ?_⟩⟩
    ·rcases e3 with q | q | q
     ·obtain ⟨k', _, h2, h3⟩ := lookup_relabel (env := X.env) q
      rw [hf] at h2; cases h2
      rcases h3 with h3 | ⟨_, h3⟩ <;> cases h3
     ·exact .inl q
     ·exact .inr q
    ·rcases lk with ⟨q, _⟩ | ⟨_, c, hc, hcell⟩
     ·have q' : X.env.kindOf x = some .local := q
      rcases hk with z | z <;> (rw [z] at q'; cases q')
     ·obtain ⟨c', hc'⟩ := closL_has (env := X.env) scope.names [] x hmem
      have e := S.sub I.ok x c' hc'
      rw [hc] at e; cases e
      exact ⟨c, hc', hcell.keeps k⟩
 ·obtain ⟨v, q⟩ := I.cell x c (S.sub I.ok x c e)
  exact ⟨v, q.keeps k⟩
 ·have hp' : p ∈ X.pn ++ pins := by
   rcases List.mem_append.mp hp with z | z
   ·exact z
   ·cases z
  obtain ⟨e, n, ne, nf, d⟩ := I.pin p hp'
  refine ⟨k _ _ e, n, Nat.ne_of_lt (Nat.lt_of_lt_of_le (Heap.lt_size e) hC), fun z => ?_, d⟩
  rcases List.mem_cons.mp (I.stkSub p.1 z) with q | q
  ·exact ne q
  ·exact nf q
 ·show (capS ow.length ci σ).length = (ow ++ ci.map fun j => X.N.getD j "").length
  simp [capS]
theorem Inv.forget {σ' : St} (I : Inv X pins σ' H s) (n : Nat) (ci : List Nat) (σ : St) (hl : (capS n ci σ).length = X.N.length) (h : ∀ i v, n ≤ i → (capS n ci σ)[i]? = some (some v) → σ'[i]? = some (some v)) : Inv X pins (capS n ci σ) H s :=
 I.weak (by rw [hl, I.len]) fun i v e => by
  by_cases hi : n ≤ i
  ·exact h i v hi e
  ·unfold capS at e
   rw [List.getElem?_append_left (by simpa using hi), List.getElem?_replicate, if_pos (by omega)] at e
   cases e
noncomputable def GKeeps (n : Nat) (g : TG) : Prop := ∀ x σ H (Q : St → Hp → Prop), g x σ H Q → g x σ H fun σ2 H2 => (∀ (i : Nat) v, n ≤ i → σ[i]? = some (some v) → σ2[i]? = some (some v)) ∧ Q σ2 H2
theorem gk_name {n i : Nat} (h : i < n) : GKeeps n (gName i) := fun x σ H Q q => ⟨fun j v hj e => by rw [List.getElem?_set_ne (by omega)]; exact e, q⟩
theorem gk_tup2 {K : PySem.W.Frag} {n i j : Nat} (hi : i < n) (hj : j < n) : GKeeps n (gTup K 2 (gCons (gName i) (gCons (gName j) gNil))) := fun x σ H Q q => by
 obtain ⟨a, xs, e1, e2, e3, v, r, e4, v', r', e5, e6, q⟩ := q
 refine ⟨a, xs, e1, e2, e3, v, r, e4, v', r', e5, e6, fun k u hk e => ?_, q⟩
 rw [List.getElem?_set_ne (by omega), List.getElem?_set_ne (by omega)]
 exact e
theorem comp_block {E : Value → Shared → Prop} {J : It} {fp : List Addr} {it : Addr} {tn : Nat → Heap → Prop} {RR : Value → Addr → Result → Shared → Prop} (hc : X.calm = true) (S : CompScope X scope ow ci) (hk : GKeeps ow.length g)
  (hb : ∀ C s₀ H₀ ex pn, PG (blk X scope ow ci C s₀ H₀ ex pn) tg g ∧ PF (blk X scope ow ci C s₀ H₀ ex pn) ifs tf ∧ PE (blk X scope ow ci C s₀ H₀ ex pn) elt te)
  (I : Inv X pins σ H s) (T : Turn X.prog X.w X.K tg J fp it tn) (st : tn 0 s.heap) (hf : ∀ b ∈ fp, FpOk X pins H b) (Z : List V → Hp → Prop)
  (W : Nat → Nat → List V → Hp → Prop) (w0 : ∃ m, W 0 m [] H)
  (turn : ∀ i m ys H, W i m ys H → (J.stop i H ∧ ys.length ≤ sizeLine ∧ Z ys H) ∨
   (J.go i H ∧ ∃ N : List V → Hp → Prop, (∀ ys' H', N ys' H' → ∃ m', m' < m ∧ W (i + 1) m' ys' H') ∧ ∀ x H', J.yld i H x H' → g x (capS ow.length ci σ) H' fun σ2 H2 => tf σ2 H2 fun b H3 =>
    if b = true then te σ2 H3 fun v H4 => ys.length < sizeLine ∧ N (ys ++ [v]) H4 else N ys H3))
  (fin : ∀ D C s' H' m ys, Inv X pins σ (upd H' D (.lst ys)) s' → H' D = none → Z ys H' → s'.heap.Ns C m → s.heap.objs.size ≤ C → C ≠ D → H' C = none → RR (.ref D) C (.ok .next) s') :
  wpAny (model X.prog X.w) X.A (newList []) (fun acc s₃ => wpAny (model X.prog X.w) X.A (newFunctionEnv scope X.env.globals (closL X.env scope.names []) [] X.env.qual none .none (some X.env)) (fun cenv s₄ =>
   codeAny (model X.prog X.w) X.A (.compStart (.ListComp elt [⟨tg, iter, ifs, 0⟩] scope pos) 0 (.ref it) acc { cenv with scope := relabel scope X.env }) (RR acc cenv.locals) s₄) E s₃) E s := by
 refine wpAny_newObj_type (wpAny_newFunctionEnv S.cell (by intro y hy; simp at hy) (fun h₁ hns₁ hsb₁ => ?_) S.kind)
 dsimp only at hns₁ hsb₁ ⊢
 -- the list that is filled stands at D, the block's names at C
 generalize hs3 : ({ s with heap := s.heap.push { cls := .type "list", dict := none, data := .seq ([] : List Value).toArray } } : Shared) = s3
 have e3 : s3.heap = s.heap.push { cls := .type "list", dict := none, data := .seq ([] : List Value).toArray } := by rw [← hs3]
 rw [← e3] at hns₁ hsb₁ ⊢
 have k3 : ∀ b o, s.heap.get? b = some o → s3.heap.get? b = some o := fun b o e => by rw [e3]; exact Heap.get?_push_of_some _ e
 have hsz : s3.heap.objs.size = s.heap.objs.size + 1 := by rw [e3, Heap.size_push]
 have I3 : Inv X pins σ H s3 := by rw [← hs3]; exact I.kept (t' := s.toks) fun b o e => Heap.get?_push_of_some _ e
 have hD3 : s3.heap.get? s.heap.objs.size = some { cls := .type "list", dict := none, data := .seq ([] : List Value).toArray } := by rw [e3]; exact Heap.get?_push_size _ rfl
 generalize hDD : s.heap.objs.size = D at *
 generalize hCC : s3.heap.objs.size = C at *
 have hDC : D < C := by omega
 have hHD : H D = none := I.hok.fresh (Nat.le_of_eq hDD)
 have fpD : FpOk X pins H D := I.fpOk (Nat.le_of_eq hDD) hHD
 have ltD : ∀ (b : Addr) o, s.heap.get? b = some o → b < D := fun b o e => by rw [← hDD]; exact Heap.lt_size e
 have ltC : ∀ (b : Addr) o, s3.heap.get? b = some o → b < C := fun b o e => by rw [← hCC]; exact Heap.lt_size e
 have hflt : ∀ b ∈ fp, b < D := fun b hb => by
  obtain ⟨o, e, _⟩ := T.obj 0 _ st b hb
  exact ltD b o e
 have hex : ∀ b ∈ D :: fp, b < s3.heap.objs.size ∧ FpOk X pins H b := fun b hb => by
  rw [hCC]
  rcases List.mem_cons.mp hb with rfl | hb
  ·exact ⟨hDC, fpD⟩
  ·exact ⟨Nat.lt_trans (hflt b hb) hDC, hf b hb⟩
 have kk : ∀ b o, s3.heap.get? b = some o → h₁.get? b = some o := fun b o e => hsb₁.extBut b o (Nat.ne_of_lt (ltC b o e)) (Heap.get?_push_of_some _ e)
 obtain ⟨hg, hfl, he⟩ := hb C s3 H (D :: fp) (X.pn ++ pins)
 generalize hY : blk X scope ow ci C s3 H (D :: fp) (X.pn ++ pins) = Y at hg hfl he
 have Yprog : Y.prog = X.prog := by rw [← hY]; rfl
 have Yw : Y.w = X.w := by rw [← hY]; rfl
 have YK : Y.K = X.K := by rw [← hY]; rfl
 have YA : Y.A = X.A := by rw [← hY]; rfl
 have Yc : Y.calm = true := by rw [← hY]; exact hc
 have Yenv : Y.env = compEnvC scope (closL X.env scope.names []) C X.env := by rw [← hY]; rfl
 have Yxe : Y.xe = fun _ _ => False := by rw [← hY]; rfl
 have Yfs : Y.fs = frs X.stack := by rw [← hY]; rfl
 have Yex : Y.ex = D :: fp := by rw [← hY]; rfl
 have Ypn : Y.pn = X.pn ++ pins := by rw [← hY]; rfl
 have Ys : Y.s₀ = s3 := by rw [← hY]; rfl
 have YH : Y.H₀ = H := by rw [← hY]; rfl
 have YN : (capS ow.length ci σ).length = Y.N.length := by rw [← hY]; show (capS ow.length ci σ).length = (ow ++ ci.map fun j => X.N.getD j "").length; simp [capS]
 -- own objects of the block are met by its rules
 have own : ∀ b ∈ D :: fp, b ≠ Y.env.locals ∧ b ∉ Y.fs ∧ b ∈ Y.ex ∧ (∀ x c, Y.env.cells.lookup x = some c → c ≠ b) ∧ ∀ p ∈ Y.pn, p.1 ≠ b := fun b hb => by
  obtain ⟨h0, h1, h2, h3, h4, h5⟩ := (hex b hb).2
  refine ⟨by rw [Yenv]; exact Nat.ne_of_lt (hCC ▸ (hex b hb).1), fun z => ?_, by rw [Yex]; exact hb, fun x c e => ?_, by rw [Ypn]; exact h5⟩
  ·rw [Yfs] at z
   rcases List.mem_cons.mp (I.stkSub b z) with q | q
   ·exact h1 q
   ·exact h2 q
  ·rw [Yenv] at e
   exact h4 x c (S.sub I.ok x c e)
 have nDf : D ∉ fp := fun z => Nat.lt_irrefl _ (hflt D z)
 have loop : ∀ s4 : Shared, Inv Y [] (capS ow.length ci σ) H s4 → tn 0 s4.heap → s4.heap.PlainList D #[] →
   codeAny (model X.prog X.w) X.A (.compLoop (.ListComp elt [⟨tg, iter, ifs, 0⟩] scope pos) 0 (.ref it) (.ref D) (compEnvC scope (closL X.env scope.names []) C X.env)) (RR (.ref D) C) s4 := by
  intro s4 J4 st4 pl4
  obtain ⟨m0, w0⟩ := w0
  refine compLoopT (fun n s' => ∃ i ys its H', Inv Y [] (capS ow.length ci σ) H' s' ∧ tn i s'.heap ∧ (∀ b ∈ fp, H' b = none) ∧ H' D = none ∧ s'.heap.PlainList D its ∧ Vals ys its.toList ∧ W i n ys H') ?_ m0
   ⟨0, [], #[], H, J4, st4, fun b hb => (hf b hb).1, hHD, pl4, .nil, w0⟩
  rintro n s5 ⟨i, ys, its, H5, J5, st5, fr5, hD5, ⟨pn5, pl5⟩, va5, w5⟩
  have vl : ys.length = its.size := by have := va5.length; simpa using this
  -- the filled list is pinned while the turn runs
  have pinD : ∀ {H' : Hp} {s' : Shared} {σ' : St}, Inv Y [] σ' H' s' → H' D = none → ∀ {o : Obj}, s'.heap.get? D = some o → (∀ v, o.data ≠ .cell v) → Inv Y [(D, o)] σ' H' s' := fun {H' s' σ'} K hD o e d =>
   K.pins_of fun p hp => by
    have ep : p = (D, o) := by simpa using hp
    subst ep
    obtain ⟨a1, a2, _⟩ := own D List.mem_cons_self
    exact ⟨e, hD, a1, a2, d⟩
  have P5 := pinD J5 hD5 pl5 (fun v z => by cases z)
  have fpk : ∀ {H' : Hp}, (∀ b ∈ fp, H' b = none) → ∀ {o : Obj}, ∀ b ∈ fp, FpOk Y [(D, o)] H' b := fun {H'} hn {o} b hb => by
   obtain ⟨a1, a2, a3, a4, a5⟩ := own b (List.mem_cons_of_mem _ hb)
   refine ⟨hn b hb, a1, a2, .inl a3, a4, fun p hp => ?_⟩
   rcases List.mem_append.mp hp with q | q
   ·exact a5 p q
   ·have ep : p = (D, o) := by simpa using q
    subst ep
    exact fun z => nDf (by have z' : D = b := z; rw [z']; exact hb)
  rcases turn i n ys H5 w5 with ⟨stop, hsz5, z5⟩ | ⟨go, NN, hNN, step⟩
  ·have d := T.done Y Yprog Yw YK Yc i [(D, _)] s5 _ H5 (fun _ _ => False) P5 (fpk fr5) st5 stop
   rw [YA] at d
   refine thn d fun r s6 ⟨hr, J6⟩ => ?_
   subst hr
   have D6 := (J6.pin (D, _) (List.mem_append_right _ List.mem_cons_self)).1
   obtain ⟨mC, hnC, _⟩ := J6.loc
   rw [Yenv] at hnC
   have hnC' : s6.heap.Ns C mC := hnC
   have hC6 : H5 C = none := by have := J6.free; rw [Yenv] at this; exact this
   refine fin D C s6 H5 mC ys ?_ hD5 z5 hnC' (Nat.le_of_lt hDC) (Nat.ne_of_gt hDC) hC6
   have B := J6.base
   rw [Yfs, Yex, YH, Ys] at B
   have low : ∀ b o, s.heap.get? b = some o → b ≠ D ∧ b ≠ C := fun b o e => ⟨Nat.ne_of_lt (ltD b o e), Nat.ne_of_lt (Nat.lt_trans (ltD b o e) hDC)⟩
   have nex : ∀ b o, s.heap.get? b = some o → b ∉ fp → b ∉ D :: fp := fun b o e hb z => by
    rcases List.mem_cons.mp z with q | q
    ·exact (low b o e).1 q
    ·exact hb q
   have uN : Un (frs X.stack) fp H (upd H5 D (.lst ys)) s.heap s6.heap := by
    refine ⟨fun b o e n hb hx => B.keep b o (k3 b o e) n hb (nex b o e hx), fun b o e n hb hx => B.slot b o (k3 b o e) n hb (nex b o e hx), fun b o e n hx => ?_, fun b o e hx => B.there b o (k3 b o e) (nex b o e hx), fun b xs q => ?_, fun b o u q => ?_, fun b ps q => ?_⟩
    ·rw [upd_ne (low b o e).1]; exact B.free b o (k3 b o e) n (nex b o e hx)
    ·rw [upd_ne (ne_of_none (B.tups b xs q) hD5)]; exact B.tups b xs q
    ·rw [upd_ne (ne_of_none (B.frzs b o u q) hD5)]; exact B.frzs b o u q
    ·obtain ⟨mo, q'⟩ := B.tbls b ps q
     exact ⟨mo, by rw [upd_ne (ne_of_none q' hD5)]; exact q'⟩
   have hok6 : HOk X.prog X.w H5 s6.heap := by rw [← Yprog, ← Yw]; exact J6.hok
   have hokN : HOk X.prog X.w (upd H5 D (.lst ys)) s6.heap := fun b u e => by
    by_cases hbD : b = D
    ·subst hbD
     rw [upd_same] at e; cases e
     exact ⟨hsz5, its.toList, _, va5, by simpa using D6⟩
    ·rw [upd_ne hbD] at e
     exact (hok6 b u e).stay (fun c v _ q => q) (fun c q => by rw [upd_ne (ne_of_none q hD5)]; exact q) fun c xs q => by rw [upd_ne (ne_of_none q hD5)]; exact q
   refine I.call' (by rw [J6.os, Ys, ← hs3]) uN hokN J6.bare fun b hb => ?_
   obtain ⟨h0, h1, h2, h3, h4, h5⟩ := hf b hb
   exact ⟨h3, h1, h4, h5⟩
  ·have d := T.item Y Yprog Yw YK Yc i [(D, _)] s5 _ H5 (fun _ _ => False) P5 (fpk fr5) st5 go
   rw [YA] at d
   refine thn d fun r s6 ⟨u, hr, h6⟩ => ?_
   subst hr
   refine thn h6 fun _ s7 ⟨x, H7, J7, r7, y7, st7, fr7⟩ => ?_
   have J7' := J7.pinned (fpk fr7) (T.obj _ _ st7)
   have h8 := hg _ s7 _ H7 x u _ J7' r7 (hk _ _ _ _ (step x H7 y7))
   rw [Yprog, Yw, YA, Yenv, Yxe] at h8
   refine thn h8 fun _ s8 ⟨σ8, H8, J8, ks8, q8⟩ => ?_
   have h9 := hfl _ s8 σ8 H8 _ J8 q8
   rw [Yprog, Yw, YA, Yenv, Yxe] at h9
   refine thn h9 fun b s9 ⟨H9, J9, q9⟩ => ?_
   -- what the pins tell behind the turn
   have back : ∀ {H' : Hp} {s' : Shared}, Inv Y ([(D, ({ cls := .type "list", data := .seq its pn5 } : Obj))] ++ pinsAt fp s7.heap) σ8 H' s' → Inv Y [] (capS ow.length ci σ) H' s' ∧ tn (i + 1) s'.heap ∧ (∀ b ∈ fp, H' b = none) ∧ H' D = none ∧ s'.heap.get? D = some { cls := .type "list", data := .seq its pn5 } := fun {H' s'} K => by
    have pD := K.pin (D, _) (List.mem_append_right _ (List.mem_append_left _ List.mem_cons_self))
    refine ⟨(K.pins_of (pins' := []) (by simp)).forget _ _ _ YN (fun j v hj e => ks8 j v hj e), T.keep _ _ _ st7 fun b hb o e => (K.pin (b, o) (List.mem_append_right _ (List.mem_append_right _ (mem_pinsAt hb e)))).1, fun b hb => ?_, pD.2.1, pD.1⟩
    obtain ⟨o, e, _⟩ := T.obj _ _ st7 b hb
    exact (K.pin (b, o) (List.mem_append_right _ (List.mem_append_right _ (mem_pinsAt hb e)))).2.1
   cases b with
   | false =>
    rw [if_neg Bool.false_ne_true] at q9 ⊢
    obtain ⟨m', hm, w9⟩ := hNN _ _ q9
    obtain ⟨K9, st9, fr9, hD9, e9⟩ := back J9
    exact ⟨m', hm, i + 1, ys, its, H9, K9, st9, fr9, hD9, ⟨_, e9⟩, va5, w9⟩
   | true =>
    rw [if_pos rfl] at q9 ⊢
    have h10 := he _ s9 σ8 H9 _ J9 q9
    rw [Yprog, Yw, YA, Yenv, Yxe] at h10
    refine thn h10 fun z s10 ⟨v, H10, J10, r10, hlt, n10⟩ => ?_
    obtain ⟨m', hm, w10⟩ := hNN _ _ n10
    obtain ⟨K10, st10, fr10, hD10, e10⟩ := back J10
    refine wpAny_list_append_plain (hsz := by rw [← vl]; exact Nat.le_of_lt hlt) ⟨_, e10⟩ fun h11 pl11 hs11 => ?_
    obtain ⟨a1, a2, a3, a4, a5⟩ := own D List.mem_cons_self
    have K11 : Inv Y [] (capS ow.length ci σ) H10 { s10 with heap := h11 } := K10.turned (t' := s10.toks) (fun b o hb e => (hs11.2 b hb).trans e) hD10 a1 (.inl a3) a4 (fun p hp => a5 p (by simpa using hp))
    refine ⟨m', hm, i + 1, ys ++ [v], its.push z, H10, K11, T.keep _ _ _ st10 fun b hb o e => (hs11.2 b (fun q => nDf (q ▸ hb))).trans e, fr10, hD10, pl11, ?_, w10⟩
    rw [Array.toList_push]
    exact va5.append (.cons r10 .nil)
 have J4 : Inv Y [] (capS ow.length ci σ) H { s3 with heap := h₁, toks := s3.toks + ([] : List (Str × Value)).length } := by
  rw [← hY]
  exact blk_start S I3 (Nat.le_of_eq hCC) hex hns₁ kk
 have st4 : tn 0 h₁ := T.keep _ _ _ st fun b _ o e => kk b o (k3 b o e)
 have pl4 : h₁.PlainList D #[] := ⟨_, kk _ _ hD3⟩
 have L := loop _ J4 st4 pl4
 subst hs3
 exact codeAny_compStart_list L (T.self _ 0 _ _ _ st4 L)
variable {wi : TI}
theorem pe_comp (hc : X.calm = true) (S : CompScope X scope ow ci) (hk : GKeeps ow.length g) (hi : PI X tg iter wi)
  (hb : ∀ C s₀ H₀ ex pn, PG (blk X scope ow ci C s₀ H₀ ex pn) tg g ∧ PF (blk X scope ow ci C s₀ H₀ ex pn) ifs tf ∧ PE (blk X scope ow ci C s₀ H₀ ex pn) elt te)
  (hs : ∀ x, foldedSetIterable iter X.env x = pure x := by intro _; rfl) : PE X (.ListComp elt [⟨tg, iter, ifs, 0⟩] scope pos) (tComp wi ow.length ci g tf te) := by
 intro pins s σ H Q I h
 rw [eval_ListComp]
 refine wpAny_comprehension_free (use := none) rfl hs (closureFor_L (S.cells I.ok)) S.kind S.names (thn (hi pins s σ H _ I h) fun v s1 h1 => thn h1 fun itv s2 h2 => ?_)
 obtain ⟨it, fp, tn, J, H2, e, I2, T, st2, f2, W, w0, turn⟩ := h2
 subst e
 refine comp_block (RR := fun acc C => compPost (model X.prog X.w) X.A X.xe none (EP X pins σ Q) acc C) hc S hk hb I2 T st2 f2 (fun ys H => ∀ p, H p = none → Q (.ref p) (upd H p (.lst ys))) W w0 turn fun D C s' H' m ys K hD z hn hC hCD hC0 => ?_
 refine ⟨m, hn, fun h' hs' => ⟨.ref D, upd H' D (.lst ys), ?_, rfl, z D hD⟩⟩
 obtain ⟨f0, f1, f2', f3, f4, f5⟩ := I2.fpOk (H' := upd H' D (.lst ys)) hC (by rw [upd_ne hCD]; exact hC0)
 exact K.turned (t' := s'.toks) (fun b o hb e => (hs'.2 b hb).trans e) f0 f1 f3 f4 f5
theorem ps_setC {i : Nat} {x : Str} {px spos : Pos} (hc : X.calm = true) (S : CompScope X scope ow ci) (hk : GKeeps ow.length g) (hN : X.N.Nodup) (hx1 : X.N[i]? = some x) (hx : Loc X.env.scope x) (hi : PI X tg iter wi)
  (hb : ∀ C s₀ H₀ ex pn, PG (blk X scope ow ci C s₀ H₀ ex pn) tg g ∧ PF (blk X scope ow ci C s₀ H₀ ex pn) ifs tf ∧ PE (blk X scope ow ci C s₀ H₀ ex pn) elt te)
  (hsw : swapsWith (.ListComp elt [⟨tg, iter, ifs, 0⟩] scope pos) (some (.Name x px)) spos.line X.env = pure true := by rfl)
  (hf : X.fn x = true ∨ X.env.scope.names.lookup x = some .local := by first | exact .inl rfl | exact .inr rfl | assumption)
  (hs : ∀ x, foldedSetIterable iter X.env x = pure x := by intro _; rfl) : PS X (.Assign [.Name x px] (.ListComp elt [⟨tg, iter, ifs, 0⟩] scope pos) spos) (tAsg (tComp wi ow.length ci g tf te) (gName i)) := by
 intro pins s σ H D I h
 rw [exec_Assign_Name_used _ _ _ _ hsw]
 refine wpAny_bind (wpAny_standAt (wpAny_bind ?_))
 show wpAny _ X.A (do let _ ← comprehension (.ListComp elt [⟨tg, iter, ifs, 0⟩] scope pos) scope X.env _ (newList []) false (eval iter X.env) (some (assign (.Name x px) X.env))) _ _ s
 refine wpAny_bind (wpAny_mono (wpAny_comprehension_free (use := some (assign (.Name x px) X.env)) (Q := fun _ s' => SP X pins D .next s') rfl hs (closureFor_L (S.cells I.ok)) S.kind S.names
  (thn (hi pins s σ H _ I h) fun v s1 h1 => thn h1 fun itv s2 h2 => ?_)) (fun _ s' hq => wpAny_pure (wpAny_pure hq)) fun _ _ e => e)
 obtain ⟨it, fp, tn, J, H2, e, I2, T, st2, f2, W, w0, turn⟩ := h2
 subst e
 refine comp_block (RR := fun acc C => compPost (model X.prog X.w) X.A X.xe (some (assign (.Name x px) X.env)) (fun _ s' => SP X pins D .next s') acc C) hc S hk hb I2 T st2 f2
  (fun ys H => ∀ p, H p = none → gName i (.ref p) σ (upd H p (.lst ys)) D.nx) W w0 turn fun P C s' H' m ys K hD z hn hC hCD hC0 => ?_
 obtain ⟨f0, f1, f2', f3, f4, f5⟩ := I2.fpOk (H' := upd H' P (.lst ys)) hC (by rw [upd_ne hCD]; exact hC0)
 show wpAny _ X.A (assign (.Name x px) X.env (.ref P)) _ _ s'
 refine wpAny_assign_Name (store_ok2 K hN hx1 hx (v := .ref P) rfl (fun s3 K3 ⟨a, hs3, ha⟩ => ⟨m, hn.sameBut hs3 ?_, fun h' hs' => ?_⟩) hf)
 ·rcases ha with q | q
  ·rw [q]; exact f1
  ·exact fun z => f4 x a q z.symm
 ·exact ⟨_, _, K3.turned (t' := s3.toks) (fun b o hb e => (hs'.2 b hb).trans e) f0 f1 f3 f4 f5, z P hD⟩
theorem comp_list {K : PySem.W.Frag} {a : Addr} {xs : List V} {k : Nat} {ci : List Nat} {g : TG} {tf : TT} {te : TE} {σ : St} {H : Hp} {Z : Addr → List V → Hp → Prop} (Pv : Nat → List V → Hp → Prop) (h0 : Pv 0 [] H) (hl : ∀ i ys H, i ≤ xs.length → Pv i ys H → SqL K H a xs)
  (hs : ∀ i x ys H, xs[i]? = some x → Pv i ys H → g x (capS k ci σ) H fun σ2 H2 => tf σ2 H2 fun b H3 => if b = true then te σ2 H3 fun v H4 => ys.length < sizeLine ∧ Pv (i + 1) (ys ++ [v]) H4 else Pv (i + 1) ys H3)
  (hd : ∀ ys H, Pv xs.length ys H → ys.length ≤ sizeLine ∧ ∀ p, H p = none → Z p ys H) :
  ∃ W : Nat → Nat → List V → Hp → Prop, (∃ m, W 0 m [] H) ∧ ∀ i m ys H, W i m ys H →
   ((Itl K a).stop i H ∧ ys.length ≤ sizeLine ∧ ∀ p, H p = none → Z p ys H) ∨
   ((Itl K a).go i H ∧ ∃ N : List V → Hp → Prop, (∀ ys' H', N ys' H' → ∃ m', m' < m ∧ W (i + 1) m' ys' H') ∧ ∀ x H', (Itl K a).yld i H x H' → g x (capS k ci σ) H' fun σ2 H2 => tf σ2 H2 fun b H3 =>
    if b = true then te σ2 H3 fun v H4 => ys.length < sizeLine ∧ N (ys ++ [v]) H4 else N ys H3) := by
 refine ⟨fun i m ys H => m = xs.length - i ∧ i ≤ xs.length ∧ Pv i ys H, ⟨xs.length, by simp, Nat.zero_le _, h0⟩, ?_⟩
 rintro i m ys H ⟨rfl, hi, p⟩
 have q := hl i ys H hi p
 by_cases hlt : i < xs.length
 ·refine .inr ⟨⟨xs, xs[i], q, by simp [hlt]⟩, Pv (i + 1), fun ys' H' p' => ⟨xs.length - (i + 1), by omega, rfl, hlt, p'⟩, fun x H' y => ?_⟩
  obtain ⟨e, y⟩ := y
  subst e
  exact hs i x ys _ (y xs q) p
 ·have e : i = xs.length := by omega
  subst e
  exact .inl ⟨⟨xs, q, Nat.le_refl _⟩, hd ys H p⟩
end
end L2
namespace L2
open PySem PySem.Spec PyProof.Rows
theorem pow_250 : (10 : Nat) ^ 250 < 2 ^ 831 := by decide +kernel
theorem bits_250 {x : Int} (h1 : -10 ^ 250 ≤ x) (h2 : x ≤ 10 ^ 250) : Builtin.Int.intBits x ≤ 1048576 := by
 refine Nat.le_trans (PySem.intBits_le_iff.mpr ?_ : Builtin.Int.intBits x ≤ 831) (by decide)
 have : x.natAbs ≤ 10 ^ 250 := by omega
 exact Nat.lt_of_le_of_lt this pow_250
theorem mulOk {x y : Int} (h1 : -10 ^ 250 ≤ x) (h2 : x ≤ 10 ^ 250) (h3 : -10 ^ 250 ≤ y) (h4 : y ≤ 10 ^ 250) : IntMulOk x y := .of_bits (bits_250 h1 h2) (bits_250 h3 h4)
section
variable {X : Cx}
theorem op_mulB : OpR X (binaryOp .Mult) (rI IntMulOk fun i j => .int (i * j)) := opI fun _ _ _ _ _ _ _ hc q => mul_int q hc
noncomputable def CDivB (_ j : Int) : Prop := 0 < j ∧ j ≤ 10 ^ 250
theorem cdivB {i j : Int} (h1 : 0 < j) (h2 : j ≤ 10 ^ 250) : CDivB i j := ⟨h1, h2⟩
theorem op_fdivB : OpR X (binaryOp .FloorDiv) (rI CDivB fun i j => .int (i / j)) := opI fun i j _ _ _ _ _ hc q => by
 have h1 : (0 : Int) < j := hc.1
 have h2 : j ≤ 10 ^ 250 := hc.2
 refine floordiv_int (by omega) ?_ (.inl (PyProof.noPylong_of_log2 ?_))
 ·rw [Int.fdiv_eq_ediv_of_nonneg _ (by omega)]; exact q
 ·have e : j.natAbs ≤ 10 ^ 250 := by omega
  have g : j.natAbs.log2 < 831 := (Nat.log2_lt (by omega)).mpr (Nat.lt_of_le_of_lt e pow_250)
  omega
theorem call_isi : CallR X (.builtin "isinstance") (fun xs H Q => ∃ x T t b, xs = [x, .ty T] ∧ TyOf X.K H x t ∧ PySem.W.kitOne X.K t (.type T) = some b ∧ Q (.bl b) H) := by
 intro pins s σ H xs us Q I r h
 obtain ⟨x, T, t, b, rfl, ty, e, q⟩ := h
 obtain ⟨u, w', rfl, rx, rT⟩ := vals2 r
 cases (show w' = Value.type T from rT)
 exact isinst_ok I rx ty e fun tk => ⟨.bl b, H, I.tok _, rfl, q⟩
theorem sumG_list {prog : Program} {w : World} {A : Around} {E : Value → Shared → Prop} {s : Shared} {l : Addr} {xs : Array (Int × Tok)} {Q : Value → Shared → Prop} (hh : A.handled = none) (hl : s.heap.IsList l (intItems xs))
  (h : ∀ h' tk t', (∀ b o, s.heap.get? b = some o → h'.get? b = some o) → Q (.int (preSum (numAt xs) xs.size) t') { s with heap := h', toks := tk }) :
  wpAny (model prog w) A (call (.builtin "sum") [.ref l]) Q E s := by
 obtain ⟨o, ho, hc, n, hd⟩ := id hl
 have hne : l ≠ s.heap.objs.size := Nat.ne_of_lt (Heap.lt_size ho)
 have hsz : (intItems xs).size = xs.size := by simp [intItems]
 have W := (Walks.list (prog := prog) (w := w) (A := A.in1) hh s.heap.objs.size l hne (intItems xs)).toS
 rw [hsz] at W
 refine call_sum_walkAnyS (wpAny_pyIter_list hl ?_)
 refine ⟨s.heap.objs.size, _, _, _, _, _, _, numAt xs, rfl, W, ⟨⟨_, Heap.get?_push_size _ rfl, rfl, rfl⟩, hl.at fun o e => Heap.get?_push_of_some _ e⟩, fun b hb => ?_, fun i v hP => intItems_at hP, fun s' t' hm => ?_⟩
 ·rcases List.mem_cons.mp hb with rfl | hb
  ·exact Heap.lt_size (Heap.get?_push_size _ rfl)
  ·obtain rfl := List.mem_singleton.mp hb
   exact Heap.lt_size (Heap.get?_push_of_some _ ho)
 ·obtain ⟨h', g', d', tk', os'⟩ := s'
  have e1 : g' = s.gens := hm.gens
  have e2 : d' = s.drawn := hm.drawn
  have e3 : os' = s.os := hm.os
  subst e1 e2 e3
  exact h h' tk' t' fun b o e => hm.heap b o (fun hb => absurd (Heap.lt_size e) ((List.mem_singleton.mp hb) ▸ Nat.lt_irrefl _)) (Heap.get?_push_of_some _ e)
theorem call_sumL (hc : X.calm = true) : CallR X (.builtin "sum") (fun xs H Q => ∃ (p : Addr) (ns : List Int), xs = [.ref p] ∧ SqL X.K H p (ns.map V.int) ∧ Q (.int ns.sum) H) := by
 intro pins s σ H xs us Q I r h
 obtain ⟨p, ns, rfl, hx, q⟩ := h
 obtain ⟨u, rfl, rx⟩ := vals1 r
 cases rx
 obtain ⟨its, r', pl, hz⟩ := I.list hx
 have hi : IntsAre its ns := intsAre_of r'
 obtain ⟨ys, hy⟩ := hi.allInts.items
 have hn : numsOf its.toArray.toList = ns := by rw [show its.toArray.toList = its from rfl, hi.numsOf]
 have hl := pl.isList
 rw [hy] at hl hn
 rw [nums_intItems] at hn
 refine sumG_list (I.ok.hd hc) hl fun h' tk t' hk => ?_
 rw [preSum_eq, List.take_of_length_le (by simp), hn]
 exact ⟨.int ns.sum, H, I.kept hk, ⟨_, rfl⟩, q⟩
end
end L2
namespace Att
open PySem PySem.W PySem.Calls PyProof.Rows
theorem bits_weight : ∀ (ns : List Int) (x : Int), x ∈ ns → Builtin.Int.intBits x ≤ WData.weightAll (ns.map WData.int)
 | [], _, h => by cases h
 | n :: r, x, h => by
  show _ ≤ WData.weight (.int n) + 1 + WData.weightAll (r.map WData.int)
  rcases List.mem_cons.mp h with e | h
  ·subst e
   have e : Builtin.Int.intBits x = WData.weight (.int x) := by
    unfold Builtin.Int.intBits WData.weight
    rfl
   omega
  ·have := bits_weight r x h
   omega
theorem attach_callB {l : OpenLaw} {n : Nat} {q : Program} {loose : List Str} {XP : (Str → Option Value) → Heap → Prop} {YP : World → Heap → Prop} {d : DefRec}
  (hn : l.most = some n) (hdf : d.params.defaults = [])
  (call : ∀ (w : World) (s₀ s₁ : Shared) (mg mb : Str → Option Value) (fa : Addr) (o : Obj) (pm cd doc : Value) (a : Addr) (vs : List Value) (ns : List Int),
   Ground q loose [] XP w s₀ mg mb s₁.heap → YP w s₁.heap →
   s₁.heap.get? fa = some o → o.data = .func (docDef d.name d.params d.body d.scope pm cd doc) → s₁.heap.CodeRec cd d.name → mg d.name = some (.ref fa) →
   s₁.heap.get? a = some { cls := .type "list", data := .seq vs.toArray } → IntsAre vs ns → ns.length ≤ n → (∀ x ∈ ns, Builtin.Int.intBits x ≤ 1048576) → s₁.gens = #[] →
   codeAny (model l.prog w) callerA (.call (.ref fa) ⟨[.ref a], []⟩) (fun r s' => r = .ok (.ret (.bool true)) ∧ OldK s₁.heap s'.heap ∧ s'.os = s₁.os ∧ AllBare s'.gens) s₁) :
  WalkO q loose XP YP l.row.toRowW d [] (fun f vs => PySem.call f vs) := by
 intro w s₀ s₁ mg mb G Y fa o pm cd doc dV kV ho hd hcd hD hmg hg args vals as hpre hlay hrd hwl hlo
 obtain rfl : dV = .none := Dflts.none hD hdf
 obtain rfl : kV = .none := Dflts.noKw hD
 obtain ⟨a, vs, ns, rfl, rfl, hobj, hints, hlen⟩ := script_of hn hpre hwl
 have hbits : ∀ x ∈ ns, Builtin.Int.intBits x ≤ 1048576 := by
  have hw : (WData.list (ns.map WData.int)).weight ≤ 2 ^ 20 := (layableW_iff.mp (layW_cons hlay).1).2.2
  intro x hx
  exact Nat.le_trans (bits_weight ns x hx) hw
 refine enter_call (codeAny_mono (call w s₀ s₁ mg mb fa o pm cd doc a vs ns G Y ho (fd_plain hd) hcd hmg hobj hints hlen hbits hg) fun r s' hq => ?_)
 obtain ⟨rfl, h2, h3, h4⟩ := hq
 exact ⟨.inl ⟨.bool true, .bool true, [], rfl, fun _ => rfl, .bool true, post_true l _, fun _ => ⟨List.Pairwise.nil, fun _ hm => (nomatch hm)⟩⟩, h2, h3, h4⟩
end Att
namespace L2
open PySem PySem.Spec PyProof.Rows
theorem walk_ofB {l : PySem.W.OpenLaw} {n k : Nat} {q : Program} {loose : List Str} {XP : (Str → Option Value) → Heap → Prop} {YP : World → Heap → Prop} {d : DefRec} {K : Params → PySem.W.Frag} {CX : CXT} {sp : PySem.W.Frag → Sp} {x : Str}
  (hn : l.most = some n) (hn2 : n ≤ sizeLine) (hdf : d.params.defaults = []) (hr : Room k callerA)
  (hY : ∀ (w : World) (h : Heap), YP w h → (K w.params).In h)
  (F : ∀ (w : World) (mg : Str → Option Value) (fa : Addr) (h : Heap), (K w.params).In h → h.Ns mainGlobals mg → mg d.name = some (.ref fa) →
   ∃ fd : FuncData, (∀ (s : Shared) (u : Value), BindsTo s fd ⟨[u], []⟩ [(x, u)]) ∧
    ∀ base : Heap, (K w.params).In base → base.Ns mainGlobals mg → FnOk l.prog w (K w.params) mg base CX k fa fd [x] (sp (K w.params)))
  (hsp : ∀ (K : PySem.W.Frag) (H : Hp) (a : Addr) (ns : List Int), ns.length ≤ n → (∀ x ∈ ns, Builtin.Int.intBits x ≤ 1048576) → Only H → SqL K H a (ns.map V.int) → sp K [.ref a] H (fun v _ => v = .bl true) fun _ _ _ => False)
  (hCX : ∀ (H : Hp) (s : Shared) (e : Value) (s' : Shared), CX [] H s (fun _ _ _ => False) e s' → False) :
  PySem.W.WalkO q loose XP YP l.row.toRowW d [] (fun f vs => PySem.call f vs) := by
 refine Att.attach_callB hn hdf fun w s₀ s₁ mg mb fa o pm cd doc a vs ns G Y ho hd hcd hmg hobj hints hlen hbits hg => ?_
 have KX := hY w _ Y
 obtain ⟨fd, hb, hF⟩ := F w mg fa _ KX G.T.g hmg
 exact law_call KX G.T.g G.T.b G.T.builtins G.T.nolimit hg hobj hints (Nat.le_trans hlen hn2) hr hF hb (fun H hO hS => hsp _ H a ns hlen hbits hO hS) fun H e s' => hCX H s₁ e s'
end L2
namespace L2
open PySem PySem.Spec PyProof.Rows
structure FunD (K : PySem.W.Frag) (x qual : Str) (st : Stmt) (T : Addr) (f : Addr) (fd : FuncData) : Prop where
 ex : ∃ (oc : Value) (od : Option Addr) (kV doc pm : Value) (an : Option Addr) (cdv ct : Value) (osl : Array (Option Value)),
  fd = PySem.W.fnOf x qual (defArgs st) (defBody st) (defScope st) (.ref T) kV doc pm an cdv ct ∧ K.lookup f = some ⟨oc, od, .func fd, osl⟩ ∧ PySem.W.codeIn K cdv qual = true
 kp : PySem.W.keepIn K (.ref f) = true
section
variable {P : Program} {w : World} {K : PySem.W.Frag} {mg : Str → Option Value} {base : Heap}
theorem FunD.ok {x qual : Str} {st : Stmt} {T f : Addr} {fd : FuncData} {N ps : List Str} {k : Nat} {sp : Sp} (F : FunD K x qual st T f fd) (S : FnScope N ps (defScope st)) (len : ∀ vs H Q E, sp vs H Q E → vs.length = ps.length)
  (hbody : ∀ (cdv : Value) (A : Around) (outer : List Env) (s : Shared) (H : Hp) (vs : List V) (Q : VK) (E : XK), Room k (A.deeper (envOfC qual (defScope st) s.heap.objs.size f cdv)) → sp vs H Q E →
   ∃ t, PSs (cxOf CX0 P w K mg base N qual (defScope st) f cdv A outer s H E).nox (defBody st) t ∧ t { nx := fun _ H' => Q .non H', rt := Q } (start N vs) H) : FnOk P w K mg base CX0 (k + 1) f fd ps sp := by
 obtain ⟨oc, od, kV, doc, pm, an, cdv, ct, osl, rfl, lk, hcd⟩ := F.ex
 refine fn_of lk hcd S len fun A outer s H vs Q E hr hsp => ?_
 obtain ⟨t, h, q⟩ := hbody cdv A outer s H vs Q E hr hsp
 exact ⟨t, h.nox, q⟩
theorem FunD.binds {x qual : Str} {st : Stmt} {T f : Addr} {fd : FuncData} {ps : List Str} {ds : List Value} {o : Obj} {items : Array Value} {n : Nat} (m : Nat) (F : FunD K x qual st T f fd) (ht : K.lookup T = some o) (hs : o.data = .seq items n) (hm : m + ds.length = ps.length)
  (h : ∀ (kV doc pm : Value) (an : Option Addr) (cdv ct : Value) (us : List Value), us.length = m → ∃ k, bindArgs (PySem.W.fnOf x qual (defArgs st) (defBody st) (defScope st) (.ref T) kV doc pm an cdv ct) ⟨us, []⟩ = seqItems? (.ref T) >>= k ∧ k (some items) = pure (ps.zip (us ++ ds))) : Binds K fd ps ds := by
 obtain ⟨oc, od, kV, doc, pm, an, cdv, ct, osl, rfl, lk, hcd⟩ := F.ex
 intro s us KX hl
 obtain ⟨k, h1, h2⟩ := h kV doc pm an cdv ct us (by rw [List.length_append] at hl; omega)
 exact BindsTo.of_defaults rfl (KX _ _ ht) hs h1 h2
theorem funD_mk {x qual : Str} {st : Stmt} {T f : Addr} {oc : Value} {od an : Option Addr} {osl : Array (Option Value)} {kV doc pm cdv ct : Value} (l : K.lookup f = some ⟨oc, od, .func (PySem.W.fnOf x qual (defArgs st) (defBody st) (defScope st) (.ref T) kV doc pm an cdv ct), osl⟩)
  (c : PySem.W.codeIn K cdv qual = true) (k : PySem.W.keepIn K (.ref f) = true) : FunD K x qual st T f (PySem.W.fnOf x qual (defArgs st) (defBody st) (defScope st) (.ref T) kV doc pm an cdv ct) := ⟨⟨oc, od, kV, doc, pm, an, cdv, ct, osl, rfl, l, c⟩, k⟩
end
end L2
namespace L2
open PySem PySem.Spec PyProof.Rows
theorem SP.nx {X : Cx} {pins : List (Addr × Obj)} {D : Ends} {R : St → Hp → Prop} (hR : ∀ σ' H', R σ' H' → D.nx σ' H') {f : Flow} {s : Shared} (h : SP X pins { D with nx := R } f s) : SP X pins D f s := by
 cases f with
 | next => obtain ⟨σ', H', I, q⟩ := h; exact ⟨σ', H', I, hR _ _ q⟩
 | brk => exact h
 | cont => exact h
 | ret u => exact h
noncomputable def tIfJ (c : TT) (t u : TS) : TS := fun D σ H => ∃ R : St → Hp → Prop, (∀ σ' H', R σ' H' → D.nx σ' H') ∧ tIfS c t u { D with nx := R } σ H
theorem ps_ifJ {X : Cx} {pos : Pos} {t u : TS} {c : Expr} {a b : List Stmt} {tc : TT} (hc : PT X c tc) (ha : PSs X a t) (hb : PSs X b u) : PS X (.If c a b pos) (tIfJ tc t u) := by
 intro pins s σ H D I h
 obtain ⟨R, hR, h⟩ := h
 exact thn (ps_if hc ha hb pins s σ H _ I h) fun f s' q => q.nx hR
end L2
namespace L2
open PySem
theorem bt_len : bootBuiltins "len" = some (.builtin "len") := by decide +kernel
theorem bt_max : bootBuiltins "max" = some (.builtin "max") := by decide +kernel
theorem bt_min : bootBuiltins "min" = some (.builtin "min") := by decide +kernel
theorem bt_sum : bootBuiltins "sum" = some (.builtin "sum") := by decide +kernel
theorem bt_isinstance : bootBuiltins "isinstance" = some (.builtin "isinstance") := by decide +kernel
theorem bt_all : bootBuiltins "all" = some (.builtin "all") := by decide +kernel
theorem bt_sorted : bootBuiltins "sorted" = some (.builtin "sorted") := by decide +kernel
theorem bt_int : bootBuiltins "int" = some (.type "int") := by decide +kernel
theorem bt_str : bootBuiltins "str" = some (.type "str") := by decide +kernel
theorem bt_bool : bootBuiltins "bool" = some (.type "bool") := by decide +kernel
theorem bt_list : bootBuiltins "list" = some (.type "list") := by decide +kernel
theorem bt_tuple : bootBuiltins "tuple" = some (.type "tuple") := by decide +kernel
theorem bt_set : bootBuiltins "set" = some (.type "set") := by decide +kernel
theorem bt_enumerate : bootBuiltins "enumerate" = some (.type "enumerate") := by decide +kernel
theorem bt_zip : bootBuiltins "zip" = some (.type "zip") := by decide +kernel
end L2
namespace L2
open PySem
theorem kit_same (K : PySem.W.Frag) (t : Value) (h : (t == t) = true) : PySem.W.kitOne K t t = some true := by unfold PySem.W.kitOne; rw [if_pos h]
theorem kit_other (K : PySem.W.Frag) {a b : String} {v : Bool} (h0 : (Value.type a == Value.type b) = false) (h1 : PySem.W.kitMeta b = true) (h2 : PySem.W.subIn [] (.type a) (.type b) = some v) : PySem.W.kitOne K (.type a) (.type b) = some v := by
 unfold PySem.W.kitOne
 rw [if_neg (by rw [h0]; exact Bool.false_ne_true)]
 show (if PySem.W.kitMeta b = true then _ else _) = _
 rw [if_pos h1]
 exact h2
theorem i_int_int {K : PySem.W.Frag} : PySem.W.kitOne K (.type "int") (.type "int") = some true := kit_same K _ (by decide +kernel)
theorem i_str_int {K : PySem.W.Frag} : PySem.W.kitOne K (.type "str") (.type "int") = some false := kit_other K (by decide +kernel) (by decide +kernel) (by decide +kernel)
theorem i_list_int {K : PySem.W.Frag} : PySem.W.kitOne K (.type "list") (.type "int") = some false := kit_other K (by decide +kernel) (by decide +kernel) (by decide +kernel)
theorem i_tuple_int {K : PySem.W.Frag} : PySem.W.kitOne K (.type "tuple") (.type "int") = some false := kit_other K (by decide +kernel) (by decide +kernel) (by decide +kernel)
theorem i_int_bool {K : PySem.W.Frag} : PySem.W.kitOne K (.type "int") (.type "bool") = some false := kit_other K (by decide +kernel) (by decide +kernel) (by decide +kernel)
theorem i_str_str {K : PySem.W.Frag} : PySem.W.kitOne K (.type "str") (.type "str") = some true := kit_same K _ (by decide +kernel)
theorem i_list_str {K : PySem.W.Frag} : PySem.W.kitOne K (.type "list") (.type "str") = some false := kit_other K (by decide +kernel) (by decide +kernel) (by decide +kernel)
theorem i_tuple_str {K : PySem.W.Frag} : PySem.W.kitOne K (.type "tuple") (.type "str") = some false := kit_other K (by decide +kernel) (by decide +kernel) (by decide +kernel)
theorem i_list_list {K : PySem.W.Frag} : PySem.W.kitOne K (.type "list") (.type "list") = some true := kit_same K _ (by decide +kernel)
theorem i_int_tuple {K : PySem.W.Frag} : PySem.W.kitOne K (.type "int") (.type "tuple") = some false := kit_other K (by decide +kernel) (by decide +kernel) (by decide +kernel)
theorem i_str_tuple {K : PySem.W.Frag} : PySem.W.kitOne K (.type "str") (.type "tuple") = some false := kit_other K (by decide +kernel) (by decide +kernel) (by decide +kernel)
theorem i_list_tuple {K : PySem.W.Frag} : PySem.W.kitOne K (.type "list") (.type "tuple") = some false := kit_other K (by decide +kernel) (by decide +kernel) (by decide +kernel)
theorem i_tuple_tuple {K : PySem.W.Frag} : PySem.W.kitOne K (.type "tuple") (.type "tuple") = some true := kit_same K _ (by decide +kernel)
end L2
namespace L2
open PySem
end L2
namespace L2
open PySem PySem.Spec PyProof.Rows
noncomputable def Its (z : Str) : It := ⟨fun i _ => i < z.cps.size, fun i H x H' => H' = H ∧ ∃ c, z.cps[i]? = some c ∧ x = .str ⟨#[c]⟩, fun i _ => i = z.cps.size⟩
theorem turn_str {P : Program} {w : World} {K : PySem.W.Frag} {tg : Expr} {it : Addr} {x : Str} {t : Tok} {cn : String} (ht : ∀ a v, letOwnedTupleGo tg a v = pure ())
  (W : ∀ A : Around, A.handled = none → Walks P w A it [it] [it] x.cps.size (SignAt x) (fun i h => h.IsStrIter it cn x t i))
  (sf : ∀ (A : Around) (i : Nat) (s : Shared) (Q : Value → Shared → Prop) (E : Value → Shared → Prop), s.heap.IsStrIter it cn x t i → Q (.ref it) s → wpAny (model P w) A (pyIter (.ref it)) Q E s) :
  Turn P w K tg (Its x) [it] it (fun i h => h.IsStrIter it cn x t i) where
 mem := by simp
 obj := fun i h st b hb => by
  have e : b = it := by simpa using hb
  subst e
  obtain ⟨o, e, c, d⟩ := st
  exact ⟨o, e, fun v z => by rw [d] at z; cases z⟩
 keep := fun i h h' st k => let ⟨o, ho, r⟩ := st; ⟨o, k it (by simp) o ho, r⟩
 item := by
  intro X hP hw hK hc i pins s σ H E I hf st hg
  subst hP hw hK
  obtain ⟨f0, f1, f2, f3, f4, f5⟩ := hf it (by simp)
  refine (W X.A (I.ok.hd hc)).item i s _ _ hg st fun v h' tk hv st' kk => ?_
  obtain ⟨c, u, e1, rfl⟩ := hv
  have I1 : Inv X pins σ H { s with heap := h', toks := tk } := I.turned (fun b o hb e => kk b o (by simpa using hb) e) f0 f1 f3 f4 f5
  refine ⟨_, rfl, ?_⟩
  rw [ht]
  exact wpAny_pure ⟨.str ⟨#[c]⟩, H, I1, ⟨_, rfl⟩, ⟨rfl, c, e1, rfl⟩, st', fun b hb => (hf b hb).1⟩
 done := by
  intro X hP hw hK hc i pins s σ H E I hf st hg
  subst hP hw hK
  obtain ⟨f0, f1, f2, f3, f4, f5⟩ := hf it (by simp)
  have e : i = x.cps.size := hg
  subst e
  exact (W X.A (I.ok.hd hc)).done s _ _ st fun h' tk kk => ⟨rfl, I.turned (fun b o hb e => kk b o (by simpa using hb) e) f0 f1 f3 f4 f5⟩
 self := fun A i s Q E st h => sf A i s Q E st h
section
variable {X : Cx} {tg : Expr}
noncomputable def iStr (tl : TE) : TI := fun σ H R => tl σ H fun x H1 => ∃ z, x = .str z ∧ R (Its z) H1
theorem pi_str {l : Expr} {tl : TE} (hl : PE X l tl) (ht : ∀ a v, letOwnedTupleGo tg a v = pure () := by intro _ _; rfl) : PI X tg l (iStr tl) := by
 intro pins s σ H R I h
 refine thn (hl pins s σ H _ I h) fun v s1 ⟨x, H1, I1, r1, q1⟩ => ?_
 obtain ⟨z, e, q⟩ := q1
 subst e
 obtain ⟨t, rfl⟩ := r1
 have fr : ∀ b ∈ [s1.heap.objs.size], FpOk X pins H1 b := fun b hb => by
  have e : b = s1.heap.objs.size := by simpa using hb
  subst e
  exact I1.fpOk (Nat.le_refl _) (I1.hok.fresh (Nat.le_refl _))
 cases ha : z.cps.all (· < 128)
 ·refine wpAny_pyIter_wide ha ?_
  exact ⟨s1.heap.objs.size, [s1.heap.objs.size], _, _, H1, rfl, I1.kept (t' := s1.toks) fun b o e => Heap.get?_push_of_some _ e,
   turn_str ht (fun A hA => Walks.strWide hA _ z t) (fun A i s Q E st h => wpAny_pyIter_striter_wide st h), ⟨_, Heap.get?_push_size _ rfl, rfl, rfl⟩, fr, q⟩
 ·refine wpAny_pyIter_ascii ha ?_
  exact ⟨s1.heap.objs.size, [s1.heap.objs.size], _, _, H1, rfl, I1.kept (t' := s1.toks) fun b o e => Heap.get?_push_of_some _ e,
   turn_str ht (fun A hA => Walks.strAscii hA _ z t) (fun A i s Q E st h => wpAny_pyIter_striter_ascii st h), ⟨_, Heap.get?_push_size _ rfl, rfl, rfl⟩, fr, q⟩
theorem comp_str {z : Str} {k : Nat} {ci : List Nat} {g : TG} {tf : TT} {te : TE} {σ : St} {H : Hp} {Z : Addr → List V → Hp → Prop} (Pv : Nat → List V → Hp → Prop) (h0 : Pv 0 [] H)
  (hs : ∀ i c ys H, z.cps[i]? = some c → Pv i ys H → g (.str ⟨#[c]⟩) (capS k ci σ) H fun σ2 H2 => tf σ2 H2 fun b H3 => if b = true then te σ2 H3 fun v H4 => ys.length < sizeLine ∧ Pv (i + 1) (ys ++ [v]) H4 else Pv (i + 1) ys H3)
  (hd : ∀ ys H, Pv z.cps.size ys H → ys.length ≤ sizeLine ∧ ∀ p, H p = none → Z p ys H) :
  ∃ W : Nat → Nat → List V → Hp → Prop, (∃ m, W 0 m [] H) ∧ ∀ i m ys H, W i m ys H →
   ((Its z).stop i H ∧ ys.length ≤ sizeLine ∧ ∀ p, H p = none → Z p ys H) ∨
   ((Its z).go i H ∧ ∃ N : List V → Hp → Prop, (∀ ys' H', N ys' H' → ∃ m', m' < m ∧ W (i + 1) m' ys' H') ∧ ∀ x H', (Its z).yld i H x H' → g x (capS k ci σ) H' fun σ2 H2 => tf σ2 H2 fun b H3 =>
    if b = true then te σ2 H3 fun v H4 => ys.length < sizeLine ∧ N (ys ++ [v]) H4 else N ys H3) := by
 refine ⟨fun i m ys H => m = z.cps.size - i ∧ i ≤ z.cps.size ∧ Pv i ys H, ⟨z.cps.size, by simp, Nat.zero_le _, h0⟩, ?_⟩
 rintro i m ys H ⟨rfl, hi, p⟩
 by_cases hlt : i < z.cps.size
 ·refine .inr ⟨hlt, Pv (i + 1), fun ys' H' p' => ⟨z.cps.size - (i + 1), by omega, rfl, hlt, p'⟩, fun x H' y => ?_⟩
  obtain ⟨e, c, e1, e2⟩ := y
  subst e e2
  exact hs i c ys _ e1 p
 ·have e : i = z.cps.size := by omega
  subst e
  exact .inl ⟨rfl, hd ys H p⟩
theorem sl_str : SlR X (fun x lo hi H Q => ∃ z, x = .str z ∧ z.length ≤ sizeLine ∧ Q (.str (Txt.slice z lo hi)) H) := by
 intro pins s σ H x v vl vu lo hi sl Q I rx hs pl pu h
 obtain ⟨z, rfl, hz, q⟩ := h
 obtain ⟨t, rfl⟩ := rx
 refine ⟨"str", _, F.slot_str_getitem.lookup, typeIs_str _ _ _, ?_⟩
 have fin : ∀ (lo hi : Option Int), Q (.str (Txt.slice z lo hi)) H → ∀ t' k, EP X pins σ Q (.str (Txt.slice z lo hi) t') { s with toks := k } := fun lo hi q t' k => ⟨.str _, H, I.tok _, ⟨_, rfl⟩, q⟩
 cases pl with
 | none =>
  cases pu with
  | none => exact wpAny_getItem_str_slice (l := none) (u := none) (st := none) hs rfl (post_val_or_str ⟨Nat.le_trans (Txt.slice_le z _ _) hz, fin _ _ q⟩)
  | int j uj => exact wpAny_getItem_str_slice (l := none) (u := some (j, uj)) (st := none) hs rfl (post_val_or_str ⟨Nat.le_trans (Txt.slice_le z _ _) hz, fin _ _ q⟩)
 | int i ui =>
  cases pu with
  | none => exact wpAny_getItem_str_slice (l := some (i, ui)) (u := none) (st := none) hs rfl (post_val_or_str ⟨Nat.le_trans (Txt.slice_le z _ _) hz, fin _ _ q⟩)
  | int j uj => exact wpAny_getItem_str_slice (l := some (i, ui)) (u := some (j, uj)) (st := none) hs rfl (post_val_or_str ⟨Nat.le_trans (Txt.slice_le z _ _) hz, fin _ _ q⟩)
theorem strsAre_of {ys : List Str} : ∀ {us : List Value}, Vals (ys.map V.str) us → StrsAre us ys := by
 induction ys with
 | nil => intro us r; rw [List.map_nil] at r; cases r; exact .nil
 | cons n ns ih =>
  intro us r
  rw [List.map_cons] at r
  cases r with
  | cons r1 r2 =>
   obtain ⟨t, e⟩ := r1
   subst e
   exact .cons n t (ih r2)
theorem mt_join : MtR X "str.join" (fun x vs H Q => ∃ (z : Str) (p : Addr) (ys : List Str), x = .str z ∧ vs = [.ref p] ∧ SqL X.K H p (ys.map V.str) ∧ (ys.map (·.length)).sum + ys.length * z.length ≤ 16777216 ∧ Q (.str (Txt.join z ys)) H) := by
 intro pins s σ H x vs v us Q I rx rv h
 obtain ⟨z, p, ys, rfl, rfl, hx, hz, q⟩ := h
 obtain ⟨t, rfl⟩ := rx
 obtain ⟨u, rfl, ru⟩ := vals1 rv
 cases ru
 obtain ⟨its, r', pl, _⟩ := I.list hx
 exact join_list pl.isList (by simpa using strsAre_of r') hz fun t' k => ⟨.str _, H, I.tok _, ⟨_, rfl⟩, q⟩
theorem op_in1 : OpR X (compareOp .In) (fun x y H Q => ∃ (c : Nat) (z : Str), x = .str ⟨#[c]⟩ ∧ y = .str z ∧ Q (.bl (decide (c ∈ z.cps.toList))) H) := by
 intro pins s σ H x y v u Q I rx ry h
 obtain ⟨c, z, rfl, rfl, q⟩ := h
 refine op_in_str pins s σ H _ _ v u Q I rx ry ⟨_, _, rfl, rfl, ?_⟩
 rw [StrLaws.found_one]
 exact q
theorem call_intS : CallR X (.type "int") (fun xs H Q => ∃ (x : Str) (n : Int), xs = [.str x] ∧ PySem.intText? x = some n ∧ x.length ≤ 640 ∧ Q (.int n) H) := by
 intro pins s σ H xs us Q I r h
 obtain ⟨x, n, rfl, e, hl, q⟩ := h
 obtain ⟨u, rfl, t, rfl⟩ := vals1 r
 exact PySem.W.KIN.call_text e hl ⟨.int n, H, I.tok _, ⟨_, rfl⟩, q⟩
theorem op_mulS : OpR X (binaryOp .Mult) (fun x y H Q => ∃ (z : Str) (n : Int), x = .str z ∧ y = .int n ∧ MulOk z n ∧ Q (.str (Txt.mul z n)) H) := by
 intro pins s σ H x y v u Q I rx ry h
 obtain ⟨z, n, rfl, rfl, hk, q⟩ := h
 obtain ⟨t, rfl⟩ := rx
 obtain ⟨t', rfl⟩ := ry
 exact SB.mul hk fun t' k => ⟨.str _, H, I.tok _, ⟨_, rfl⟩, q⟩
theorem call_allB (hc : X.calm = true) : CallR X (.builtin "all") (fun xs H Q => ∃ (p : Addr) (bs : List Bool), xs = [.ref p] ∧ SqL X.K H p (bs.map V.bl) ∧ Q (.bl (bs.all id)) H) := by
 intro pins s σ H xs us Q I r h
 obtain ⟨p, bs, rfl, hx, q⟩ := h
 obtain ⟨u, rfl, rx⟩ := vals1 r
 cases rx
 obtain ⟨its, r', pl, _⟩ := I.list hx
 have hl := pl.isList
 obtain ⟨o, ho, _⟩ := id hl
 have hne : p ≠ s.heap.objs.size := Nat.ne_of_lt (Heap.lt_size ho)
 have W := Walks.list (prog := X.prog) (w := X.w) (A := X.A.in1) (I.ok.hd hc) s.heap.objs.size p hne its.toArray
 refine call_all_walk (wpAny_pyIter_list hl ⟨s.heap.objs.size, _, _, _, _, _, fun i => bs.getD i true, rfl, W, ⟨⟨_, Heap.get?_push_size _ rfl, rfl, rfl⟩, hl.at fun o e => Heap.get?_push_of_some _ e⟩, ?_, ?_⟩)
 ·intro i v s' Q' E' hP hQ
  have hP' : its[i]? = some v := by simpa using hP
  have hb : ∃ b, bs[i]? = some b ∧ v = .bool b := by
   have hlen : i < bs.length := by
    have := (List.getElem?_eq_some_iff.mp hP').1
    have e := r'.length
    rw [List.length_map] at e
    omega
   obtain ⟨u, hu, ru⟩ := r'.get (i := i) (x := .bl bs[i]) (by rw [List.getElem?_map, List.getElem?_eq_getElem hlen]; rfl)
   rw [hP'] at hu
   cases hu
   exact ⟨_, List.getElem?_eq_getElem hlen, ru⟩
  obtain ⟨b, e1, rfl⟩ := hb
  dsimp only at hQ
  rw [List.getD_eq_getElem?_getD, e1] at hQ
  exact wpAny_truthy_bool hQ
 ·intro h' tk hk
  have e : (List.range its.toArray.size).all (fun i => bs.getD i true) = bs.all id := by
   have hl2 : its.toArray.size = bs.length := by
    have e := r'.length
    rw [List.length_map] at e
    simp [e]
   rw [hl2, Bool.eq_iff_iff]
   simp only [List.all_eq_true, List.mem_range, id_eq]
   constructor
   ·intro hh b hb
    obtain ⟨i, hi, rfl⟩ := List.mem_iff_getElem.mp hb
    have := hh i hi
    rw [List.getD_eq_getElem?_getD, List.getElem?_eq_getElem hi] at this
    exact this
   ·intro hh i hi
    rw [List.getD_eq_getElem?_getD, List.getElem?_eq_getElem hi]
    exact hh _ (List.getElem_mem hi)
  rw [e]
  refine ⟨.bl _, H, I.kept fun b o e => hk b o ?_ (Heap.get?_push_of_some _ e), rfl, q⟩
  intro hb
  have : b = s.heap.objs.size := by simpa using hb
  exact absurd (Heap.lt_size e) (this ▸ Nat.lt_irrefl _)
theorem rd_iStr {tl : TE} {σ : St} {H : Hp} {R : It → Hp → Prop} (h : tl σ H fun x H1 => ∃ z, x = .str z ∧ R (Its z) H1) : iStr tl σ H R := h
theorem rd_str {z : Str} {R : Str → Prop} (h : R z) : ∃ z', V.str z = .str z' ∧ R z' := ⟨z, rfl, h⟩
end
end L2
namespace L2
open PySem PySem.Spec PyProof.Rows
section
variable {X : Cx} {K : PySem.W.Frag}
theorem ix_listK (e : X.K = K) : IxR X (rIxL K) := by subst e; exact ix_list
theorem ix_tupK (e : X.K = K) : IxR X (rIxT K) := by subst e; exact ix_tup
theorem op_in_seqK (e : X.K = K) : OpR X (compareOp .In) (rIn K false) := by subst e; exact op_in_seq
theorem op_notIn_seqK (e : X.K = K) : OpR X (compareOp .NotIn) (rIn K true) := by subst e; exact op_notIn_seq
end
end L2
namespace L2
open PySem PySem.Spec PyProof.Rows
mutual
inductive DV (H : Hp) : V → PyData → Prop
 | non : DV H .non .none
 | bl (b : Bool) : DV H (.bl b) (.bool b)
 | int (i : Int) : DV H (.int i) (.int i)
 | str (x : Str) : DV H (.str x) (.str x)
 | lst {a : Addr} {xs : List V} {ds : List PyData} : H a = some (.lst xs) → DVs H xs ds → DV H (.ref a) (.list ds)
 | tup {a : Addr} {xs : List V} {ds : List PyData} : H a = some (.tup xs) → DVs H xs ds → DV H (.ref a) (.tuple ds)
inductive DVs (H : Hp) : List V → List PyData → Prop
 | nil : DVs H [] []
 | cons {x : V} {d : PyData} {xs : List V} {ds : List PyData} : DV H x d → DVs H xs ds → DVs H (x :: xs) (d :: ds)
end
mutual
theorem DV.mono {H H' : Hp} (k : Same H H') : ∀ {v : V} {d : PyData}, DV H v d → DV H' v d
 | _, _, .non => .non
 | _, _, .bl b => .bl b
 | _, _, .int i => .int i
 | _, _, .str x => .str x
 | _, _, .lst e r => .lst (k _ _ e) (DVs.mono k r)
 | _, _, .tup e r => .tup (k _ _ e) (DVs.mono k r)
theorem DVs.mono {H H' : Hp} (k : Same H H') : ∀ {vs : List V} {ds : List PyData}, DVs H vs ds → DVs H' vs ds
 | _, _, .nil => .nil
 | _, _, .cons a r => .cons (DV.mono k a) (DVs.mono k r)
end
section
variable {X : Cx}
mutual
theorem dv_reads {pins : List (Addr × Obj)} {s : Shared} {σ : St} {H : Hp} (I : Inv X pins σ H s) : ∀ {v : V} {d : PyData} {u : Value}, DV H v d → RelV v u → ∃ as, Reads s.heap u d as
 | _, _, _, .non, r => ⟨_, by cases r; exact Reads.none⟩
 | _, _, _, .bl b, r => ⟨_, by cases r; exact Reads.bool b⟩
 | _, _, _, .int i, r => by obtain ⟨t, rfl⟩ := r; exact ⟨_, Reads.int i t⟩
 | _, _, _, .str x, r => by obtain ⟨t, rfl⟩ := r; exact ⟨_, Reads.str x t⟩
 | _, _, _, .lst e q, r => by
  cases r
  obtain ⟨_, its, c, rv, he⟩ := I.hok _ _ e
  obtain ⟨as, ra⟩ := dvs_reads I q rv
  exact ⟨_, reads_list_at he rfl rfl (by simpa using ra)⟩
 | _, _, _, .tup e q, r => by
  cases r
  obtain ⟨its, rv, pl, _⟩ := I.tuple (SqT.of e)
  obtain ⟨o, ho, hc, n, hd⟩ := pl
  obtain ⟨as, ra⟩ := dvs_reads I q rv
  exact ⟨_, reads_tuple_at ho hc hd (by simpa using ra)⟩
theorem dvs_reads {pins : List (Addr × Obj)} {s : Shared} {σ : St} {H : Hp} (I : Inv X pins σ H s) : ∀ {vs : List V} {ds : List PyData} {us : List Value}, DVs H vs ds → Vals vs us → ∃ as, ReadsAll s.heap us ds as
 | _, _, _, .nil, r => by cases r; exact ⟨_, ReadsAll.nil⟩
 | _, _, _, .cons a q, r => by
  cases r with
  | cons r1 r2 =>
   obtain ⟨as, ra⟩ := dv_reads I a r1
   obtain ⟨bs, rb⟩ := dvs_reads I q r2
   exact ⟨_, ReadsAll.cons ra rb⟩
end
theorem op_eqD (hu : X.A.units + 64 < cLine) : OpR X (compareOp .Eq) (fun x y H Q => ∃ d e, DV H x d ∧ DV H y e ∧ SeqAt.shaped d = true ∧ SeqAt.shaped e = true ∧ Q (.bl (PyData.eqv d e)) H) := by
 intro pins s σ H x y v u Q I rx ry h
 obtain ⟨d, e, hd, he, sd, se, q⟩ := h
 obtain ⟨as, ra⟩ := dv_reads I hd rx
 obtain ⟨bs, rb⟩ := dv_reads I he ry
 exact eq_dataH ra rb sd se hu ⟨.bl _, H, I, rfl, q⟩
theorem op_neD (hu : X.A.units + 64 < cLine) : OpR X (compareOp .NotEq) (fun x y H Q => ∃ d e, DV H x d ∧ DV H y e ∧ SeqAt.shaped d = true ∧ SeqAt.shaped e = true ∧ Q (.bl (!PyData.eqv d e)) H) := by
 intro pins s σ H x y v u Q I rx ry h
 obtain ⟨d, e, hd, he, sd, se, q⟩ := h
 obtain ⟨as, ra⟩ := dv_reads I hd rx
 obtain ⟨bs, rb⟩ := dv_reads I he ry
 exact ne_dataH ra rb sd se hu ⟨.bl _, H, I, rfl, q⟩
theorem valsI_of {us : List Value} : ∀ {ns : List Int}, IntsAre us ns → Vals (ns.map V.int) us := by
 induction us with
 | nil => intro ns r; cases r; exact .nil
 | cons u us ih =>
  intro ns r
  cases r with
  | cons n t r => exact .cons ⟨t, rfl⟩ (ih r)
theorem call_sortedI : CallR X (.builtin "sorted") (fun xs H Q => ∃ (p : Addr) (ns : List Int), xs = [.ref p] ∧ SqL X.K H p (ns.map V.int) ∧ ns.length < 64 ∧ ∀ (l : Addr) (ms : List Int), H l = none → ms.Perm ns → ms.Pairwise (· ≤ ·) → Q (.ref l) (upd H l (.lst (ms.map V.int)))) := by
 intro pins s σ H xs us Q I r h
 obtain ⟨p, ns, rfl, hx, hn, q⟩ := h
 obtain ⟨u, rfl, rx⟩ := vals1 r
 cases rx
 obtain ⟨its, r', pl, _⟩ := I.list hx
 have hi := intsAre_of r'
 have hlen := r'.length
 rw [List.length_map] at hlen
 refine sorted_ints pl.isList hi (by omega) fun out ms ho hp hs => ?_
 obtain ⟨e, he⟩ := sortedAll_at s.heap its out
 refine ⟨.ref (s.heap.objs.size + 1), _, I.laid (t' := s.toks) (a := s.heap.objs.size + 1) (o := .lst (ms.map V.int)) (fun b o hb => sortedAll_old hb) (Nat.le_succ _) ?_, rfl, q _ ms (I.hok.fresh (Nat.le_succ _)) hp hs⟩
 have hml : ms.length = ns.length := hp.length_eq
 exact ⟨by rw [List.length_map, hml]; exact Nat.le_trans (Nat.le_of_lt hn) (by decide), out.toList, e, valsI_of ho, by simpa using he⟩
theorem call_maxL (hc : X.calm = true) : CallR X (.builtin "max") (fun xs H Q => ∃ (p : Addr) (ns : List Int), xs = [.ref p] ∧ SqL X.K H p (ns.map V.int) ∧ 0 < ns.length ∧ ∀ m ∈ ns, (∀ a ∈ ns, a ≤ m) → Q (.int m) H) := by
 intro pins s σ H xs us Q I r h
 obtain ⟨p, ns, rfl, hx, hne, q⟩ := h
 obtain ⟨u, rfl, rx⟩ := vals1 r
 cases rx
 obtain ⟨its, r', pl, _⟩ := I.list hx
 have hi := intsAre_of r'
 have hl := pl.isList
 obtain ⟨xs, e⟩ := hi.allInts.items
 have hns : ns = xs.toList.map (·.1) := by rw [← hi.numsOf, ← nums_intItems, ← e]
 have hsz : 0 < xs.size := by
  have h3 := hne; rw [hns, List.length_map, Array.length_toList] at h3; exact h3
 rw [e] at hl
 refine max_intList (I.ok.hd hc) hl hsz fun v h' tk hv hk => ?_
 obtain ⟨t, rfl⟩ := intItems_at hv
 obtain ⟨h1, h2⟩ := argBest_gt (numAt xs) (xs.size - 1)
 refine ⟨.int _, H, I.kept (t' := tk) hk, ⟨_, rfl⟩, q _ ?_ fun a ha => ?_⟩
 ·rw [hns, numAt_eq]; exact getD_mem (by rw [List.length_map, Array.length_toList]; omega)
 ·rw [hns] at ha
  obtain ⟨j, hj, rfl⟩ := mem_getD ha
  rw [List.length_map, Array.length_toList] at hj
  rw [← numAt_eq]; exact h2 j (by omega)
end
section
variable {σ : St} {H : Hp} {Q : VK}
theorem rd_dget {td ty : TE} (h : td σ H fun x H1 => ty σ H1 fun y H2 => ∃ a v, x = .ref a ∧ DGet H2 a y (some v) ∧ Q v H2) : tDGet td ty σ H Q := h
theorem rd_disp {trs : List (TE × TE)} (h : ∀ p, H p = none → tPairs trs σ (upd H p (.dK [])) fun ps H2 => H2 p = some (.dK []) ∧ ∃ kvs : List (Key × V), ps = kvs.map (fun kv => (kV kv.1, kv.2)) ∧ kvs.length ≤ 15 ∧ Q (.ref p) (upd H2 p (.dK (mergeK [] kvs)))) : tDisp trs σ H Q := h
theorem rd_prN {R : List (V × V) → Hp → Prop} (h : R [] H) : tPairs [] σ H R := h
theorem rd_prC {tk tv : TE} {r : List (TE × TE)} {R : List (V × V) → Hp → Prop} (h : tk σ H fun x H1 => tv σ H1 fun y H2 => tPairs r σ H2 fun ps H3 => R ((x, y) :: ps) H3) : tPairs ((tk, tv) :: r) σ H R := h
end
end L2
namespace L2
open PySem PySem.Spec PyProof.Rows
noncomputable def TabK (K : PySem.W.Frag) (a : Addr) (D : List (Str × PyProof.Rows.KTD.Dat)) : Prop := PyProof.Rows.KTD.tabLook (PyProof.Rows.KTD.datLooks fun b => K.lookup b) (fun b => K.lookup b) a D = true
section
variable {X : Cx}
theorem op_inT : OpR X (compareOp .In) (fun x y H Q => ∃ a k D, x = .str k ∧ y = .ref a ∧ TabK X.K a D ∧ Q (.bl (PyProof.Rows.KTD.inKeys k D)) H) := by
 intro pins s σ H x y v u Q I rx ry h
 obtain ⟨a, k, D, rfl, rfl, T, q⟩ := h
 obtain ⟨t, rfl⟩ := rx
 cases ry
 exact PyProof.Rows.KTD.in_text (h₀ := s.heap) ⟨PySem.W.kt_text_in I.kIn T, fun _ _ e => e⟩ ⟨.bl _, H, I.tok _, rfl, q⟩
theorem op_notInT : OpR X (compareOp .NotIn) (fun x y H Q => ∃ a k D, x = .str k ∧ y = .ref a ∧ TabK X.K a D ∧ Q (.bl (!PyProof.Rows.KTD.inKeys k D)) H) := by
 intro pins s σ H x y v u Q I rx ry h
 obtain ⟨a, k, D, rfl, rfl, T, q⟩ := h
 obtain ⟨t, rfl⟩ := rx
 cases ry
 exact PyProof.Rows.KTD.notin_text (h₀ := s.heap) ⟨PySem.W.kt_text_in I.kIn T, fun _ _ e => e⟩ ⟨.bl _, H, I.tok _, rfl, q⟩
theorem call_strA : CallR X (.type "str") (fun xs H Q => (∃ i, xs = [.int i] ∧ i.natAbs.log2 < 1920 ∧ Q (.str (toString i)) H) ∨ ∃ x, xs = [.str x] ∧ Q (.str x) H) := by
 intro pins s σ H xs us Q I r h
 rcases h with ⟨i, rfl, hz, q⟩ | ⟨x, rfl, q⟩
 ·obtain ⟨u, rfl, t, rfl⟩ := vals1 r
  exact PySem.P.str_of_int hz ⟨.str _, H, I.tok _, ⟨_, rfl⟩, q⟩
 ·obtain ⟨u, rfl, t, rfl⟩ := vals1 r
  exact PySem.P.str_of_str ⟨.str x, H, I, ⟨_, rfl⟩, q⟩
end
theorem rd_iTup {K : PySem.W.Frag} {te : TE} {σ : St} {H : Hp} {R : It → Hp → Prop} (h : te σ H fun x H1 => ∃ a, x = .ref a ∧ (∃ xs, SqT K H1 a xs) ∧ R (Itt K a) H1) : iTup K te σ H R := h
theorem rd_gT2 {K : PySem.W.Frag} {i j : Nat} {a : Addr} {x y : V} {σ : St} {H : Hp} {R : St → Hp → Prop} (e : SqT K H a [x, y]) (h : gName i x σ H fun σ' H' => gName j y σ' H' R) : gTup K 2 (gCons (gName i) (gCons (gName j) gNil)) (.ref a) σ H R :=
 ⟨a, [x, y], rfl, e, rfl, x, [y], rfl, y, [], rfl, rfl, h⟩
theorem rd_sub {to ti : TE} {t : TSet} {v : V} {σ : St} {H : Hp} {R : St → Hp → Prop} (h : to σ H fun o H1 => ti σ H1 fun i H2 => t o i v H2 fun H3 => R σ H3) : gSub to ti t v σ H R := h
theorem rd_dnew {σ : St} {H : Hp} {Q : VK} (h : ∀ p, H p = none → Q (.ref p) (upd H p (.dK []))) : tDNewK σ H Q := h
theorem rd_dput {td ty tv : TE} {σ : St} {H : Hp} {D : Ends} (h : tv σ H fun v H1 => td σ H1 fun x H2 => ty σ H2 fun y H3 => ∃ a H4, x = .ref a ∧ DPut H3 a y v H4 ∧ D.nx σ H4) : sDPut td ty tv D σ H := h
theorem rd_bm0 {K : PySem.W.Frag} {T : String} {r : V → List V → Hp → VK → Prop} {to : TE} {σ : St} {H : Hp} {Q : VK} (h : to σ H fun x H1 => tyV K T x H1 ∧ r x [] H1 Q) : tBM0 K T r to σ H Q := h
end L2
namespace L2
open PySem PySem.Spec PyProof.Rows
section
variable {X : Cx} {pins : List (Addr × Obj)} {σ : St} {H : Hp} {s : Shared} {h' : Heap}
theorem Inv.turnedL {t' : Nat} {ch : List Addr} (I : Inv X pins σ H s) (hf : ∀ b ∈ ch, FpOk X pins H b) (k : ∀ b o, b ∉ ch → s.heap.get? b = some o → h'.get? b = some o) : Inv X pins σ H { s with heap := h', toks := t' } := by
 have nit : ∀ b u, H b = some u → b ∉ ch := fun b u e z => by rw [(hf b z).1] at e; cases e
 refine I.step (g' := s.gens) (d' := s.drawn) (ch := ch) (fun b hb => ?_) (fun b o _ _ hc e _ => k b o hc e) (fun b o _ _ hc e _ => ⟨o.slots, k b o hc e⟩) (fun _ _ _ _ n => n)
  (fun b o hc e => ⟨o, k b o hc e⟩) (fun _ _ e => e) (fun _ _ _ e => e) (fun b ps e => ⟨#[], by rw [e]; simp⟩) (fun m hm => ?_) (fun b u e => ?_) I.bare
 ·obtain ⟨_, f1, _, f3, f4, f5⟩ := hf b hb
  exact ⟨f3, f1, f4, f5⟩
 ·obtain ⟨o, es, ep, ho, r⟩ := hm
  exact ⟨o, es, ep, k _ o (fun z => (hf _ z).2.1 rfl) ho, r⟩
 ·refine (I.hok b u e).stay (fun c v hc q => k c v ?_ q) (fun _ q => q) fun _ _ q => q
  rcases hc with z | z
  ·rw [z]; exact nit b u e
  ·exact nit c _ z
theorem Inv.pair {t' : Nat} {ch : List Addr} {x y : V} {u v : Value} (I : Inv X pins σ H s) (hf : ∀ b ∈ ch, FpOk X pins H b) (hl : ∀ b ∈ ch, b < s.heap.objs.size) (rx : RelV x u) (ry : RelV y v)
  (hT : h'.get? s.heap.objs.size = some { cls := .type "tuple", data := .seq #[u, v] }) (k : ∀ b o, b ∉ ch → s.heap.get? b = some o → h'.get? b = some o) :
  Inv X pins σ (upd H s.heap.objs.size (.tup [x, y])) { s with heap := h', toks := t' } ∧ ∀ b ∈ ch, FpOk X pins (upd H s.heap.objs.size (.tup [x, y])) b := by
 have f : ∀ b ∈ ch, FpOk X pins (upd H s.heap.objs.size (.tup [x, y])) b := fun b hb => ⟨(upd_ne (Nat.ne_of_lt (hl b hb))).trans (hf b hb).1, (hf b hb).2⟩
 have I1 : Inv X pins σ (upd H s.heap.objs.size (.tup [x, y])) { s with heap := s.heap.push { cls := .type "tuple", data := .seq #[u, v] }, toks := t' } :=
  I.laid (t' := t') (fun b o e => Heap.get?_push_of_some _ e) (Nat.le_refl _) (show ObjOk X.prog X.w _ _ _ (.tup [x, y]) from ⟨(by show 2 ≤ sizeLine; decide), [u, v], .cons rx (.cons ry .nil), IsTup.new _ _⟩)
 refine ⟨I1.turnedL (h' := h') (t' := t') f fun b o hb e => ?_, f⟩
 rcases Heap.get?_push_cases e with ⟨rfl, rfl⟩ | e
 ·exact hT
 ·exact k b o hb e
end
noncomputable def Ite (K : PySem.W.Frag) (a : Addr) : It :=
 ⟨fun i H => ∃ xs x, SqL K H a xs ∧ xs[i]? = some x, fun i H x H' => ∃ T v, x = .ref T ∧ H T = none ∧ H' = upd H T (.tup [.int i, v]) ∧ ∀ xs, SqL K H a xs → xs[i]? = some v, fun i H => ∃ xs, SqL K H a xs ∧ xs.length ≤ i⟩
theorem turn_enum {P : Program} {w : World} {K : PySem.W.Frag} {elts : List Expr} {k : Nat} {pos : Pos} (a e it : Addr) (hne : e ≠ it) :
  Turn P w K (.Tuple elts k pos) (Ite K a) [e, it] e (fun i h => (∃ old, IsEnum h e it ((i : Nat) : Int) old) ∧ h.IsListIter it a i) where
 mem := by simp
 obj := fun i h st b hb => by
  rcases (by simpa using hb : b = e ∨ b = it) with rfl | rfl
  ·obtain ⟨old, he⟩ := st.1
   exact ⟨_, he, fun v z => by cases z⟩
  ·obtain ⟨o, e, c, d⟩ := st.2
   exact ⟨o, e, fun v z => by rw [d] at z; cases z⟩
 keep := fun i h h' st k => ⟨let ⟨old, he⟩ := st.1; ⟨old, k e (by simp) _ he⟩, st.2.at fun o q => k it (by simp) o q⟩
 item := by
  intro X hP hw hK hc i pins s σ H E I hf st hg
  subst hP hw hK
  obtain ⟨xs, x, hq, hx⟩ := hg
  obtain ⟨its, rv, p, hz⟩ := I.list hq
  obtain ⟨u, hu, ru⟩ := rv.get hx
  obtain ⟨⟨old, he⟩, hit⟩ := st
  have le : e < s.heap.objs.size := Heap.lt_size he
  have li : it < s.heap.objs.size := by obtain ⟨o, q, _⟩ := id hit; exact Heap.lt_size q
  refine wpAny_pyNext_enum_item he hit p.isList (x := u) (by simpa using hu) hne fun h' ho hit' hT hsz hk => ?_
  obtain ⟨I1, f1⟩ := I.pair (t' := s.toks + 1) (ch := [e, it]) (x := .int i) (y := x) hf (fun b hb => by rcases (by simpa using hb : b = e ∨ b = it) with rfl | rfl <;> assumption) ⟨s.toks, rfl⟩ ru hT
   (fun b o hb q => hk b o (fun z => hb (by simp [z])) (fun z => hb (by simp [z])) q)
  refine ⟨_, rfl, wpAny_letOwnedTupleGo_enum ho fun h2 he2 sb => ?_⟩
  have I2 := I1.turnedL (h' := h2) (t' := s.toks + 1) (ch := [e, it]) f1 fun b o hb q => (sb.2 b fun z => hb (by simp [z])).trans q
  exact ⟨.ref s.heap.objs.size, _, I2, rfl, ⟨_, x, rfl, I.hok.fresh (Nat.le_refl _), rfl, fun ys hy => by rw [I.list_inj hy hq]; exact hx⟩,
   ⟨⟨u, by simpa using he2⟩, hit'.at fun o q => (sb.2 it hne.symm).trans q⟩, fun b hb => (f1 b hb).1⟩
 done := by
  intro X hP hw hK hc i pins s σ H E I hf st hg
  subst hP hw hK
  obtain ⟨xs, hq, hx⟩ := hg
  obtain ⟨its, rv, p, hz⟩ := I.list hq
  obtain ⟨⟨old, he⟩, hit⟩ := st
  have hl := rv.length
  exact wpAny_pyNext_enum_end (I.ok.hd hc) he hit p.isList (by simp; omega) fun h' eb => ⟨rfl, I.turnedL (t' := s.toks) (ch := [e, it]) hf fun b o hb q => eb b o (fun z => hb (by simp [z])) q⟩
 self := fun _ _ _ _ _ st h => let ⟨_, he⟩ := st.1; wpAny_pyIter_enum he h
noncomputable def iEnum (K : PySem.W.Frag) (ta : TA) : TI := fun σ H R => ta σ H fun vs H1 => ∃ a xs, vs = [.ref a] ∧ SqL K H1 a xs ∧ R (Ite K a) H1
theorem pi_enum {X : Cx} {a : Expr} {ta : TA} {elts : List Expr} {k : Nat} {p pos pos' : Pos} (hg : Gl X "enumerate") (hm : X.mg "enumerate" = none) (ha : PA X [a] ta) (hs : starEach [a] X.env = [(false, eval a X.env)] := by rfl) :
  PI X (.Tuple elts k pos') (.Call (.Name "enumerate" p) [a] [] pos) (iEnum X.K ta) := by
 intro pins s σ H R I h
 refine Call_ (ld_blt I hg hm bt_enumerate (PyProof.Rows.callWith_type1 (thn (ha pos pins s σ H _ I h) fun us s1 ⟨vs, H1, I1, r1, q1⟩ => ?_) hs rfl))
 obtain ⟨b, xs, rfl, hq, q⟩ := q1
 obtain ⟨u, rfl, ru⟩ := vals1 r1
 cases ru
 obtain ⟨its, rv, p, hz⟩ := I1.list hq
 refine call_enumerate_list p.isList fun h' he hit hsz hk => ?_
 refine wpAny_pyIter_enum he ?_
 refine ⟨s1.heap.objs.size + 1, [s1.heap.objs.size + 1, s1.heap.objs.size], _, _, H1, rfl, I1.kept (t' := s1.toks) hk, turn_enum b _ _ (Nat.succ_ne_self _), ⟨⟨_, by simpa using he⟩, hit⟩, fun c hc => ?_, q⟩
 rcases (by simpa using hc : c = s1.heap.objs.size + 1 ∨ c = s1.heap.objs.size) with rfl | rfl
 ·exact I1.fpOk (Nat.le_succ _) (I1.hok.fresh (Nat.le_succ _))
 ·exact I1.fpOk (Nat.le_refl _) (I1.hok.fresh (Nat.le_refl _))
theorem for_enum {K : PySem.W.Frag} {a : Addr} {xs : List V} {g : TG} {tb : TS} {D : Ends} {σ : St} {H : Hp} (Pv : Nat → St → Hp → Prop) (h0 : Pv 0 σ H) (hl : ∀ i σ H, i ≤ xs.length → Pv i σ H → SqL K H a xs)
  (hs : ∀ i v σ H T H', xs[i]? = some v → Pv i σ H → Same H H' → H' T = some (.tup [.int i, v]) → g (.ref T) σ H' fun σ2 H2 => tb { D with nx := Pv (i + 1), ct := Pv (i + 1), bk := D.nx } σ2 H2) (hd : ∀ σ H, Pv xs.length σ H → D.nx σ H) :
  ∃ W : Nat → Nat → St → Hp → Prop, (∃ m, W 0 m σ H) ∧ ∀ i m σ H, W i m σ H →
   ((Ite K a).stop i H ∧ D.nx σ H) ∨ ((Ite K a).go i H ∧ ∃ N : St → Hp → Prop, (∀ σ' H', N σ' H' → ∃ m', m' < m ∧ W (i + 1) m' σ' H') ∧ ∀ x H', (Ite K a).yld i H x H' → g x σ H' fun σ2 H2 => tb { D with nx := N, ct := N, bk := D.nx } σ2 H2) := by
 refine ⟨fun i m σ H => m = xs.length - i ∧ i ≤ xs.length ∧ Pv i σ H, ⟨xs.length, by simp, Nat.zero_le _, h0⟩, ?_⟩
 rintro i m σ H ⟨rfl, hi, p⟩
 have q := hl i σ H hi p
 by_cases hlt : i < xs.length
 ·refine .inr ⟨⟨xs, xs[i], q, by simp [hlt]⟩, Pv (i + 1), fun σ' H' p' => ⟨xs.length - (i + 1), by omega, rfl, hlt, p'⟩, fun x H' y => ?_⟩
  obtain ⟨T, v, rfl, hT, e, y⟩ := y
  exact hs i v σ H T H' (y xs q) p (fun b o h => by rw [e, upd_ne (ne_of_none h hT)]; exact h) (by rw [e]; exact upd_same)
 ·have e : i = xs.length := by omega
  subst e
  exact .inl ⟨⟨xs, q, Nat.le_refl _⟩, hd σ H p⟩
theorem rd_iEnum {K : PySem.W.Frag} {ta : TA} {σ : St} {H : Hp} {R : It → Hp → Prop} (h : ta σ H fun vs H1 => ∃ a xs, vs = [.ref a] ∧ SqL K H1 a xs ∧ R (Ite K a) H1) : iEnum K ta σ H R := h
theorem ne_add {n i j : Nat} (h : i ≠ j) : n + i ≠ n + j := fun e => h (Nat.add_left_cancel e)
end L2
namespace L2
open PySem PySem.Spec PySem.W PyProof.Rows
section
variable {X : Cx} {pins : List (Addr × Obj)} {σ : St} {H : Hp} {s : Shared}
noncomputable def NewA (X : Cx) (pins : List (Addr × Obj)) (T : Addr) : Prop := X.s₀.heap.objs.size ≤ T ∧ T ≠ X.env.locals ∧ (∀ x c, X.env.cells.lookup x = some c → c ≠ T) ∧ ∀ p ∈ X.pn ++ pins, p.1 ≠ T
theorem Inv.newA (I : Inv X pins σ H s) {T : Addr} (hT : s.heap.objs.size ≤ T) : NewA X pins T := by
 obtain ⟨_, f1, _, _, f4, f5⟩ := I.fpOk (H' := fun _ => none) hT rfl
 exact ⟨Nat.le_trans I.sz hT, f1, f4, f5⟩
theorem Inv.track {T : Addr} {o : HO} (I : Inv X pins σ H s) (h0 : H T = none) (hn : NewA X pins T) (new : ObjOk X.prog X.w (upd H T o) s.heap T o) : Inv X pins σ (upd H T o) s := by
 have ne : ∀ b u, H b = some u → b ≠ T := fun b u e z => by rw [z, h0] at e; cases e
 refine I.step (h' := s.heap) (H' := upd H T o) (g' := s.gens) (d' := s.drawn) (t' := s.toks) (ch := [T]) (fun b hb => ?_) (fun b o _ _ _ e _ => e) (fun b o _ _ _ e _ => ⟨o.slots, e⟩) (fun b u hb _ n => ?_) (fun b u _ e => ⟨u, e⟩)
  (fun b xs e => (upd_ne (ne _ _ e)).trans e) (fun b u v e => (upd_ne (ne _ _ e)).trans e) (fun b ps e => ⟨#[], by rw [upd_ne (ne _ _ e), e]; simp⟩) (fun m hm => hm) (fun b u e => ?_) I.bare
 ·have e : b = T := by simpa using hb
  subst e
  exact ⟨.inr hn.1, hn.2.1, hn.2.2.1, hn.2.2.2⟩
 ·exact (upd_ne fun z => hb (by simp [z])).trans n
 ·by_cases z : b = T
  ·subst z
   rw [upd_same] at e
   cases e
   exact new
  ·rw [upd_ne z] at e
   exact (I.hok b u e).stay (fun c v _ q => q) (fun c q => (upd_ne (ne _ _ q)).trans q) fun c ys q => (upd_ne (ne _ _ q)).trans q
theorem Inv.trackAll : ∀ (ws : List (Addr × HO)) {H : Hp}, Inv X pins σ H s → (∀ p ∈ ws, H p.1 = none ∧ NewA X pins p.1 ∧ ∀ H', ObjOk X.prog X.w H' s.heap p.1 p.2) → (ws.map (·.1)).Nodup → ∃ H', Inv X pins σ H' s ∧ Same H H' ∧ ∀ p ∈ ws, H' p.1 = some p.2
 | [], H, I, _, _ => ⟨H, I, Same.refl _, fun p hp => nomatch hp⟩
 | w :: r, H, I, h, nd => by
  obtain ⟨a, b, c⟩ := h w List.mem_cons_self
  rw [List.map_cons, List.nodup_cons] at nd
  have I1 := I.track a b (c _)
  obtain ⟨H', I2, s2, k2⟩ := Inv.trackAll r I1 (fun p hp => by
   obtain ⟨a', b', c'⟩ := h p (List.mem_cons_of_mem _ hp)
   exact ⟨(upd_ne fun z : p.1 = w.1 => nd.1 (by rw [← z]; exact List.mem_map.mpr ⟨p, hp, rfl⟩)).trans a', b', c'⟩) nd.2
  have s1 : Same H (upd H w.1 w.2) := fun b u q => (upd_ne (ne_of_none q a)).trans q
  refine ⟨H', I2, s1.trans s2, fun p hp => ?_⟩
  rcases List.mem_cons.mp hp with rfl | hp
  ·exact s2 _ _ upd_same
  ·exact k2 p hp
end
section
variable {X : Cx}
theorem valsR : ∀ as : List Addr, Vals (as.map V.ref) (as.map Value.ref)
 | [] => .nil
 | _ :: r => .cons rfl (valsR r)
end
end L2
namespace L2
open PySem PySem.Spec PySem.W PyProof.Rows
section
variable {X : Cx}
end
end L2
namespace L2
open PySem PySem.Spec PySem.W PyProof.Rows
end L2
namespace L2
open PySem PySem.Spec PySem.W PyProof.Rows
theorem ix_both {X : Cx} : IxR X (fun x y H Q => rIxL X.K x y H Q ∨ rIxT X.K x y H Q) := fun value slice pins s σ H x y v u Q I rx ry h hs =>
 h.elim (fun h => ix_list value slice pins s σ H x y v u Q I rx ry h hs) fun h => ix_tup value slice pins s σ H x y v u Q I rx ry h hs
end L2
namespace L2
open PySem PySem.Spec PyProof.Rows
section
variable {X : Cx}
end
end L2
namespace L2
open PySem PySem.Spec PyProof.Rows
end L2
namespace L2
open PySem PySem.Spec PyProof.Rows
section
variable {X : Cx} {e : Expr} {te : TE}
end
end L2
namespace L2
open PySem PySem.Spec PySem.W PyProof.Rows
noncomputable abbrev IsZipK (h : Heap) (z TI TO T : Addr) (f : Bool) : Prop := h.get? z = some { cls := .type "zip", dict := none, data := .fields #[rawInt T, .bool f, .bool false, .ref TI, .ref TO], slots := #[] }
section
variable {prog : Program} {w : World} {A : Around} {E : Value → Shared → Prop} {s : Shared}
theorem zipK_notFree {z TI TO T : Addr} {f : Bool} {oT : Obj} (hz : IsZipK s.heap z TI TO T f) (hT : s.heap.get? T = some oT) :
  wpAny (model prog w) A (Builtin.SmallTypes.ownedTupleIsFree (.ref z)) (fun a s₁ => a = false ∧ ∃ h₁, s₁ = { s with heap := h₁ } ∧ IsZipK h₁ z TI TO T true ∧ Heap.SameBut z s.heap h₁) E s := by
 unfold Builtin.SmallTypes.ownedTupleIsFree
 refine wpAny_bind (wpAny_field hz rfl (x := rawInt T) rfl ?_)
 show wpAny _ _ (loadIfAlive ((T : Int).toNat) >>= _) _ _ _
 rw [Int.toNat_natCast]
 refine wpAny_bind (kdx_alive hT ?_)
 simp only [Option.isNone_some, Bool.false_eq_true, if_false]
 refine wpAny_bind (wpAny_field hz rfl (x := .bool f) rfl ?_)
 cases f with
 | true =>
  rw [if_neg (show ¬ ((Value.bool true != Value.bool true) = true) from Bool.false_ne_true)]
  exact wpAny_pure ⟨rfl, _, rfl, hz, Heap.SameBut.refl ..⟩
 | false =>
  rw [if_pos (show (Value.bool false != Value.bool true) = true from rfl)]
  refine wpAny_bind (wpAny_setField_rec hz (by simp) fun h₃ he₃ hs₃ => ?_)
  exact wpAny_pure ⟨rfl, h₃, rfl, he₃, hs₃⟩
theorem zipK_next_item {z TI TO T i1 i2 l1 l2 : Addr} {f : Bool} {oT : Obj} {k1 k2 : Nat} {xs ys : Array Value} {x y : Value} {Q : Value → Shared → Prop} (D : ZipApart z TI TO i1 i2 l1 l2)
  (hz : IsZipK s.heap z TI TO T f) (hT : s.heap.get? T = some oT) (hTI : IsPair s.heap TI (.ref i1) (.ref i2))
  (h1 : s.heap.IsListIter i1 l1 k1) (h2 : s.heap.IsListIter i2 l2 k2) (hl1 : s.heap.IsList l1 xs) (hl2 : s.heap.IsList l2 ys) (hx : xs[k1]? = some x) (hy : ys[k2]? = some y)
  (hQ : ∀ h', IsZipK h' z TI TO T true → h'.IsListIter i1 l1 (k1 + 1) → h'.IsListIter i2 l2 (k2 + 1) → IsPair h' s.heap.objs.size x y → h'.objs.size = s.heap.objs.size + 1 →
   (∀ c o, c ≠ z → c ≠ i1 → c ≠ i2 → s.heap.get? c = some o → h'.get? c = some o) → Q (.ref s.heap.objs.size) { s with heap := h' }) :
  wpAny (model prog w) A (Builtin.«zip.__next__» ⟨[.ref z], []⟩) (fun fin s' => ∃ v, fin = Fin.done (.ret v) ∧ Q v s') E s := by
 show wpAny _ _ (field (.ref z) 2 >>= _) _ _ _
 refine wpAny_bind (wpAny_field hz rfl (x := .bool false) rfl ?_)
 show wpAny _ _ (field (.ref z) 3 >>= _) _ _ _
 refine wpAny_bind (wpAny_field hz rfl (x := .ref TI) rfl ?_)
 refine wpAny_bind (wpAny_seqItems hTI rfl ?_)
 show wpAny _ _ (Builtin.SmallTypes.ownedTupleIsFree (.ref z) >>= _) _ _ _
 refine wpAny_bind (thn (zipK_notFree hz hT) fun a s₁ ⟨ha, h₁, es, hz₁, hs₁⟩ => ?_)
 subst ha es
 simp only [Bool.false_eq_true, if_false]
 refine wpAny_bind ?_
 rw [← Array.forIn_toList]
 simp only [List.forIn_cons, List.forIn_nil]
 refine wpAny_bind (wpAny_bind (wpAny_holding ?_))
 show wpAny _ _ (Builtin.SmallTypes.nextOf (.ref i1) >>= _) _ _ _
 refine wpAny_bind (wpAny_nextOf_list_item (h1.extBut hs₁.extBut D.i1z) (hl1.extBut hs₁.extBut D.l1z) hx fun h₂ h1₂ hs₂ => wpAny_pure ?_)
 refine wpAny_pure ?_
 refine wpAny_bind (wpAny_bind (wpAny_holding ?_))
 show wpAny _ _ (Builtin.SmallTypes.nextOf (.ref i2) >>= _) _ _ _
 refine wpAny_bind (wpAny_nextOf_list_item ((h2.extBut hs₁.extBut D.i2z).extBut hs₂.extBut D.i12.symm) ((hl2.extBut hs₁.extBut D.l2z).extBut hs₂.extBut D.l2i1) hy fun h₄ h2₄ hs₄ => wpAny_pure ?_)
 refine wpAny_pure (wpAny_pure ?_)
 refine wpAny_bind (wpAny_newTuple (hsz := by show 2 ≤ sizeLine; decide) ?_)
 have hsz : h₄.objs.size = s.heap.objs.size := by rw [hs₄.1, hs₂.1, hs₁.1]
 have hz₄ : IsZipK h₄ z TI TO T true := hs₄.extBut _ _ D.i2z.symm (hs₂.extBut _ _ D.i1z.symm hz₁)
 have hk : ∀ c o, c ≠ z → c ≠ i1 → c ≠ i2 → s.heap.get? c = some o → h₄.get? c = some o := fun c o c1 c3 c4 e => hs₄.extBut _ _ c4 (hs₂.extBut _ _ c3 (hs₁.extBut _ _ c1 e))
 refine wpAny_pure ⟨_, rfl, ?_⟩
 show Q (.ref h₄.objs.size) _
 have hT : (h₄.push { cls := .type "tuple", data := .seq #[x, y] }).get? h₄.objs.size = some { cls := .type "tuple", data := .seq #[x, y] } := Heap.get?_push_size _ rfl
 rw [hsz] at hT ⊢
 exact hQ _ (Heap.get?_push_of_some _ hz₄) ((h1₂.extBut hs₄.extBut D.i12).at fun o e => Heap.get?_push_of_some _ e) (h2₄.at fun o e => Heap.get?_push_of_some _ e) hT (by rw [Heap.size_push, hsz]) fun c o c1 c3 c4 e => Heap.get?_push_of_some _ (hk c o c1 c3 c4 e)
theorem wpAny_pyNext_zipK_item {z TI TO T i1 i2 l1 l2 : Addr} {f : Bool} {oT : Obj} {k1 k2 : Nat} {xs ys : Array Value} {x y : Value} {Q : Option Value → Shared → Prop} (D : ZipApart z TI TO i1 i2 l1 l2)
  (hz : IsZipK s.heap z TI TO T f) (hT : s.heap.get? T = some oT) (hTI : IsPair s.heap TI (.ref i1) (.ref i2))
  (h1 : s.heap.IsListIter i1 l1 k1) (h2 : s.heap.IsListIter i2 l2 k2) (hl1 : s.heap.IsList l1 xs) (hl2 : s.heap.IsList l2 ys) (hx : xs[k1]? = some x) (hy : ys[k2]? = some y)
  (hQ : ∀ h', IsZipK h' z TI TO T true → h'.IsListIter i1 l1 (k1 + 1) → h'.IsListIter i2 l2 (k2 + 1) → IsPair h' s.heap.objs.size x y → h'.objs.size = s.heap.objs.size + 1 →
   (∀ c o, c ≠ z → c ≠ i1 → c ≠ i2 → s.heap.get? c = some o → h'.get? c = some o) → Q (some (.ref s.heap.objs.size)) { s with heap := h' }) :
  wpAny (model prog w) A (pyNext (.ref z)) Q E s := by
 have hTy : s.TypeIs (.ref z) "zip" := ⟨_, hz, rfl⟩
 unfold pyNext
 refine wpAny_bind (wpAny_attempt (wpAny_callSpecial?_slot (name := Str.ofString "__next__") hTy F.slot_zip_next
  (wpAny_call_entry F.slot_zip_next hTy F.entry_zip_next (zipK_next_item D hz hT hTI h1 h2 hl1 hl2 hx hy fun h' a1 a2 a3 a4 a5 a6 => ?_) (F.args_zip_next_1 _))))
 exact wpAny_pure (hQ h' a1 a2 a3 a4 a5 a6)
theorem zipK_next_end {z TI TO T i1 i2 l1 l2 : Addr} {f : Bool} {oT : Obj} {k1 : Nat} {xs : Array Value} {Q : Fin → Shared → Prop} (hh : A.handled = none) (D : ZipApart z TI TO i1 i2 l1 l2)
  (hz : IsZipK s.heap z TI TO T f) (hT : s.heap.get? T = some oT) (hTI : IsPair s.heap TI (.ref i1) (.ref i2))
  (h1 : s.heap.IsListIter i1 l1 k1) (hl1 : s.heap.IsList l1 xs) (hx : xs[k1]? = none)
  (hE : ∀ h' e, (∀ c o, c ≠ z → c ≠ i1 → c ≠ i2 → s.heap.get? c = some o → h'.get? c = some o) → (∃ o, h'.get? e = some o ∧ o.cls = .type "StopIteration") → E (.ref e) { s with heap := h' }) :
  wpAny (model prog w) A (Builtin.«zip.__next__» ⟨[.ref z], []⟩) Q E s := by
 show wpAny _ _ (field (.ref z) 2 >>= _) _ _ _
 refine wpAny_bind (wpAny_field hz rfl (x := .bool false) rfl ?_)
 show wpAny _ _ (field (.ref z) 3 >>= _) _ _ _
 refine wpAny_bind (wpAny_field hz rfl (x := .ref TI) rfl ?_)
 refine wpAny_bind (wpAny_seqItems hTI rfl ?_)
 show wpAny _ _ (Builtin.SmallTypes.ownedTupleIsFree (.ref z) >>= _) _ _ _
 refine wpAny_bind (thn (zipK_notFree hz hT) fun a s₁ ⟨ha, h₁, es, hz₁, hs₁⟩ => ?_)
 subst ha es
 simp only [Bool.false_eq_true, if_false]
 refine wpAny_bind ?_
 rw [← Array.forIn_toList]
 simp only [List.forIn_cons, List.forIn_nil]
 refine wpAny_bind (wpAny_bind (wpAny_holding ?_))
 show wpAny _ _ (Builtin.SmallTypes.nextOf (.ref i1) >>= _) _ _ _
 refine wpAny_bind (wpAny_nextOf_list_end hh (h1.extBut hs₁.extBut D.i1z) (hl1.extBut hs₁.extBut D.l1z) hx fun h₂ e hs₂ he => ?_)
 exact hE h₂ e (fun c o c1 c3 _ x => hs₂ _ _ c3 (hs₁.extBut _ _ c1 x)) he
theorem wpAny_pyNext_zipK_end {z TI TO T i1 i2 l1 l2 : Addr} {f : Bool} {oT : Obj} {k1 : Nat} {xs : Array Value} {Q : Option Value → Shared → Prop} (hh : A.handled = none) (D : ZipApart z TI TO i1 i2 l1 l2)
  (hz : IsZipK s.heap z TI TO T f) (hT : s.heap.get? T = some oT) (hTI : IsPair s.heap TI (.ref i1) (.ref i2))
  (h1 : s.heap.IsListIter i1 l1 k1) (hl1 : s.heap.IsList l1 xs) (hx : xs[k1]? = none)
  (hQ : ∀ h', (∀ c o, c ≠ z → c ≠ i1 → c ≠ i2 → s.heap.get? c = some o → h'.get? c = some o) → Q none { s with heap := h' }) : wpAny (model prog w) A (pyNext (.ref z)) Q E s := by
 have hTy : s.TypeIs (.ref z) "zip" := ⟨_, hz, rfl⟩
 unfold pyNext
 refine wpAny_bind (wpAny_attempt (wpAny_callSpecial?_slot (name := Str.ofString "__next__") hTy F.slot_zip_next
  (wpAny_call_entry F.slot_zip_next hTy F.entry_zip_next (zipK_next_end hh D hz hT hTI h1 hl1 hx fun h' e hk he => ?_) (F.args_zip_next_1 _))))
 obtain ⟨o, ho, hc⟩ := he
 refine wpAny_bind (wpAny_isInstance (T := "StopIteration") (b := true) ⟨o, ho, hc⟩ isSubtype_stop ?_)
 exact wpAny_pure (hQ _ hk)
theorem zip_no_len : typeLookup (.type "zip") "__len__" = pure none := by rw [typeLookup_type, builtinLookup_eq_fast]; kernel_rfl
theorem zip_no_hint : typeLookup (.type "zip") "__length_hint__" = pure none := by rw [typeLookup_type, builtinLookup_eq_fast]; kernel_rfl
noncomputable def ZipSt (h : Heap) (z TI TO i1 i2 l1 l2 : Addr) (i : Nat) : Prop :=
 IsPair h TI (.ref i1) (.ref i2) ∧ h.IsListIter i1 l1 i ∧ h.IsListIter i2 l2 i ∧ ((i = 0 ∧ IsZip h z TI TO .none ∧ ∃ a b, IsPair h TO a b) ∨ (∃ T f oT, IsZipK h z TI TO T f ∧ h.get? T = some oT ∧ T ≠ z ∧ T ≠ i1 ∧ T ≠ i2))
theorem zipSt_item {z TI TO i1 i2 l1 l2 : Addr} {i : Nat} {xs ys : Array Value} {x y : Value} {Q : Option Value → Shared → Prop} (D : ZipApart z TI TO i1 i2 l1 l2) (st : ZipSt s.heap z TI TO i1 i2 l1 l2 i)
  (hl1 : s.heap.IsList l1 xs) (hl2 : s.heap.IsList l2 ys) (hx : xs[i]? = some x) (hy : ys[i]? = some y)
  (hQ : ∀ h', ZipSt h' z TI TO i1 i2 l1 l2 (i + 1) → IsPair h' s.heap.objs.size x y → h'.objs.size = s.heap.objs.size + 1 → (∀ c o, c ≠ z → c ≠ TO → c ≠ i1 → c ≠ i2 → s.heap.get? c = some o → h'.get? c = some o) → Q (some (.ref s.heap.objs.size)) { s with heap := h' }) :
  wpAny (model prog w) A (pyNext (.ref z)) Q E s := by
 obtain ⟨hTI, h1, h2, st⟩ := st
 have n1 : s.heap.objs.size ≠ i1 := by obtain ⟨o, e, _⟩ := id h1; exact Nat.ne_of_gt (Heap.lt_size e)
 have n2 : s.heap.objs.size ≠ i2 := by obtain ⟨o, e, _⟩ := id h2; exact Nat.ne_of_gt (Heap.lt_size e)
 rcases st with ⟨rfl, hz, a, b, hTO⟩ | ⟨T, f, oT, hz, hT, t1, t2, t3⟩
 ·have nz : s.heap.objs.size ≠ z := Nat.ne_of_gt (Heap.lt_size hz)
  refine wpAny_pyNext_zip_item D hz hTI hTO h1 h2 hl1 hl2 hx hy fun h' a1 a2 a3 a4 a5 a6 hk => ?_
  exact hQ h' ⟨hk TI _ D.TIz D.TITO D.TIi1 D.TIi2 hTI, a3, a4, .inr ⟨_, false, _, a1, a5, nz, n1, n2⟩⟩ a5 a6 hk
 ·refine wpAny_pyNext_zipK_item D hz hT hTI h1 h2 hl1 hl2 hx hy fun h' a1 a3 a4 a5 a6 hk => ?_
  exact hQ h' ⟨hk TI _ D.TIz D.TIi1 D.TIi2 hTI, a3, a4, .inr ⟨T, true, oT, a1, hk T _ t1 t2 t3 hT, t1, t2, t3⟩⟩ a5 a6 fun c o c1 c2 c3 c4 e => hk c o c1 c3 c4 e
theorem zipSt_end {z TI TO i1 i2 l1 l2 : Addr} {i : Nat} {xs ys : Array Value} {Q : Option Value → Shared → Prop} (hh : A.handled = none) (D : ZipApart z TI TO i1 i2 l1 l2) (st : ZipSt s.heap z TI TO i1 i2 l1 l2 i)
  (hl1 : s.heap.IsList l1 xs) (hl2 : s.heap.IsList l2 ys) (hx : xs[i]? = none)
  (hQ : ∀ h', (∀ c o, c ≠ z → c ≠ TO → c ≠ i1 → c ≠ i2 → s.heap.get? c = some o → h'.get? c = some o) → Q none { s with heap := h' }) : wpAny (model prog w) A (pyNext (.ref z)) Q E s := by
 obtain ⟨hTI, h1, h2, st⟩ := st
 rcases st with ⟨rfl, hz, a, b, hTO⟩ | ⟨T, f, oT, hz, hT, t1, t2, t3⟩
 ·exact wpAny_pyNext_zip_end hh D hz hTI hTO h1 h2 hl1 hl2 (.inl hx) hQ
 ·exact wpAny_pyNext_zipK_end hh D hz hT hTI h1 hl1 hx fun h' hk => hQ h' fun c o c1 c2 c3 c4 e => hk c o c1 c3 c4 e
noncomputable def ZPs (h : Heap) (lo : Nat) (as : List Addr) (xs ys : Array Value) : Prop := as.Pairwise (· < ·) ∧ (∀ a ∈ as, lo ≤ a ∧ a < h.objs.size) ∧ ∀ (j : Nat) (a : Addr), as[j]? = some a → ∃ x y, xs[j]? = some x ∧ ys[j]? = some y ∧ IsPair h a x y
theorem zip_loop {R : Result → Shared → Prop} {z TI TO i1 i2 l1 l2 S : Addr} {lo : Nat} {xs ys : Array Value} (hh : A.in1.handled = none) (D : ZipApart z TI TO i1 i2 l1 l2) (hS : S ≠ z ∧ S ≠ TI ∧ S ≠ TO ∧ S ≠ i1 ∧ S ≠ i2 ∧ S ≠ l1 ∧ S ≠ l2) (hlo : z < lo ∧ TO < lo ∧ i1 < lo ∧ i2 < lo ∧ S < lo) (hlen : xs.size = ys.size) (hn : xs.size ≤ sizeLine) (res : Value) :
  ∀ (k i : Nat) (s : Shared) (as : List Addr) (c : Nat), xs.size - i = k → i ≤ xs.size → ZipSt s.heap z TI TO i1 i2 l1 l2 i → s.heap.IsList l1 xs → s.heap.IsList l2 ys → lo ≤ s.heap.objs.size →
  s.heap.get? S = some { cls := .type "list", dict := none, data := .seq (as.map Value.ref).toArray c, slots := #[] } → as.length = i → ZPs s.heap lo as xs ys →
  (∀ h' as' c', h'.get? S = some { cls := .type "list", dict := none, data := .seq (as'.map Value.ref).toArray c', slots := #[] } → as'.length = xs.size → ZPs h' lo as' xs ys →
   (∀ b o, b ≠ S → b ≠ z → b ≠ TO → b ≠ i1 → b ≠ i2 → s.heap.get? b = some o → h'.get? b = some o) → R (.ok (.ret res)) { s with heap := h' }) →
  codeAny (model prog w) A (.builtin "list.extend.loop" ⟨[.ref S, .ref z, res], []⟩) R s := by
 intro k
 induction k with
 | zero =>
  intro i s as c hk hi st hl1 hl2 hlo' hSo hla hP hR
  have hin : i = xs.size := by omega
  refine codeAny_builtin F.entry_extend_loop ?_
  rw [Around.under_plainId F.plain_extend_loop _]
  show wpAny _ A.in1 (pyNext (.ref z) >>= _) _ _ s
  refine wpAny_bind (zipSt_end hh D st hl1 hl2 (by rw [Array.getElem?_eq_none_iff]; omega) fun h' hk' => ?_)
  have ap : ∀ a ∈ as, a ≠ z ∧ a ≠ TO ∧ a ≠ i1 ∧ a ≠ i2 ∧ a ≠ S := fun a ha => ⟨Nat.ne_of_gt (Nat.lt_of_lt_of_le hlo.1 (hP.2.1 a ha).1), Nat.ne_of_gt (Nat.lt_of_lt_of_le hlo.2.1 (hP.2.1 a ha).1), Nat.ne_of_gt (Nat.lt_of_lt_of_le hlo.2.2.1 (hP.2.1 a ha).1), Nat.ne_of_gt (Nat.lt_of_lt_of_le hlo.2.2.2.1 (hP.2.1 a ha).1), Nat.ne_of_gt (Nat.lt_of_lt_of_le hlo.2.2.2.2 (hP.2.1 a ha).1)⟩
  have keep : ∀ a ∈ as, ∀ o, s.heap.get? a = some o → h'.get? a = some o := fun a ha o e => hk' a o (ap a ha).1 (ap a ha).2.1 (ap a ha).2.2.1 (ap a ha).2.2.2.1 e
  refine wpAny_pure (hR h' as c (hk' S _ hS.1 hS.2.2.1 hS.2.2.2.1 hS.2.2.2.2.1 hSo) (by omega) ⟨hP.1, fun a ha => ?_, fun j a e => ?_⟩ fun b o _ b1 b2 b3 b4 e => hk' b o b1 b2 b3 b4 e)
  ·obtain ⟨j, hj, ej⟩ := List.getElem_of_mem ha
   obtain ⟨x, y, _, _, p⟩ := hP.2.2 j a (by rw [List.getElem?_eq_getElem hj, ej])
   exact ⟨(hP.2.1 a ha).1, Heap.lt_size (keep a ha _ p)⟩
  ·obtain ⟨x, y, p1, p2, p⟩ := hP.2.2 j a e
   exact ⟨x, y, p1, p2, keep a (List.mem_of_getElem? e) _ p⟩
 | succ k ih =>
  intro i s as c hk hi st hl1 hl2 hlo' hSo hla hP hR
  have hlt : i < xs.size := by omega
  refine codeAny_builtin F.entry_extend_loop ?_
  rw [Around.under_plainId F.plain_extend_loop _]
  show wpAny _ A.in1 (pyNext (.ref z) >>= _) _ _ s
  have ex : xs[i]? = some xs[i] := by simp [hlt]
  have ey : ys[i]? = some (ys[i]'(by omega)) := by simp [← hlen, hlt]
  refine wpAny_bind (zipSt_item D st hl1 hl2 ex ey fun h' st' hp hsz hk' => ?_)
  have hS' := hk' S _ hS.1 hS.2.2.1 hS.2.2.2.1 hS.2.2.2.2.1 hSo
  show wpAny _ A.in1 (updateSeq S (·.push (.ref s.heap.objs.size)) >>= _) _ _ _
  refine wpAny_bind ?_
  have sz1 : (as.map Value.ref).toArray.size = i := by simp [hla]
  refine wpAny_updateSeq hS' rfl (wpAny_pure ⟨plainId_quiet F.plain_extend_loop _, ?_⟩) (by rw [sz1]; omega) (by show ((as.map Value.ref).toArray.push _).size ≤ sizeLine + 1; rw [Array.size_push, sz1]; omega)
  have oth : ∀ b o, b ≠ S → h'.get? b = some o → (h'.update S (Obj.mapSeq (·.push (.ref s.heap.objs.size)))).get? b = some o := fun b o hb e => (Heap.get?_update_other _ _ (Ne.symm hb)).trans e
  have hS2 := Heap.get?_update_self (Obj.mapSeq (·.push (.ref s.heap.objs.size))) hS' rfl
  have e2 : ∃ c2, (Obj.mapSeq (·.push (.ref s.heap.objs.size)) { cls := .type "list", dict := none, data := .seq (as.map Value.ref).toArray c, slots := #[] } : Obj) = { cls := .type "list", dict := none, data := .seq ((as ++ [s.heap.objs.size]).map Value.ref).toArray c2, slots := #[] } := by
   have e3 : (as.map Value.ref).toArray.push (.ref s.heap.objs.size) = ((as ++ [s.heap.objs.size]).map Value.ref).toArray := by simp
   rw [← e3]
   exact ⟨_, rfl⟩
  obtain ⟨c2, e2⟩ := e2
  rw [e2] at hS2
  have usz : (h'.update S (Obj.mapSeq (·.push (.ref s.heap.objs.size)))).objs.size = s.heap.objs.size + 1 := by rw [← hsz]; exact (Heap.SameBut.update ..).1
  have nS : s.heap.objs.size ≠ S := Nat.ne_of_gt (Nat.lt_of_lt_of_le hlo.2.2.2.2 hlo')
  have ap : ∀ a ∈ as, a ≠ z ∧ a ≠ TO ∧ a ≠ i1 ∧ a ≠ i2 ∧ a ≠ S := fun a ha => ⟨Nat.ne_of_gt (Nat.lt_of_lt_of_le hlo.1 (hP.2.1 a ha).1), Nat.ne_of_gt (Nat.lt_of_lt_of_le hlo.2.1 (hP.2.1 a ha).1), Nat.ne_of_gt (Nat.lt_of_lt_of_le hlo.2.2.1 (hP.2.1 a ha).1), Nat.ne_of_gt (Nat.lt_of_lt_of_le hlo.2.2.2.1 (hP.2.1 a ha).1), Nat.ne_of_gt (Nat.lt_of_lt_of_le hlo.2.2.2.2 (hP.2.1 a ha).1)⟩
  have low : ∀ a ∈ as, a < s.heap.objs.size := fun a ha => (hP.2.1 a ha).2
  have keep : ∀ a ∈ as, ∀ o, s.heap.get? a = some o → (h'.update S (Obj.mapSeq (·.push (.ref s.heap.objs.size)))).get? a = some o := fun a ha o e => oth a o (ap a ha).2.2.2.2 (hk' a o (ap a ha).1 (ap a ha).2.1 (ap a ha).2.2.1 (ap a ha).2.2.2.1 e)
  refine ih (i + 1) _ (as ++ [s.heap.objs.size]) c2 (by omega) hlt ?_ ?_ ?_ ?_ hS2 (by rw [List.length_append, hla]; rfl) ?_ ?_
  ·obtain ⟨q1, q2, q3, q4⟩ := st'
   refine ⟨oth _ _ hS.2.1.symm q1, q2.at fun o e => oth _ _ hS.2.2.2.1.symm e, q3.at fun o e => oth _ _ hS.2.2.2.2.1.symm e, ?_⟩
   rcases q4 with ⟨z0, _⟩ | ⟨T, f, oT, q5, q6, q7, q8, q9⟩
   ·cases z0
   ·by_cases zS : T = S
    ·subst zS
     exact .inr ⟨T, f, _, oth _ _ hS.1.symm q5, hS2, q7, q8, q9⟩
    ·exact .inr ⟨T, f, oT, oth _ _ hS.1.symm q5, oth _ _ zS q6, q7, q8, q9⟩
  ·obtain ⟨o, e, r⟩ := hl1
   exact ⟨o, oth _ _ hS.2.2.2.2.2.1.symm (hk' _ _ D.l1z D.l1TO D.l1i1 D.l1i2 e), r⟩
  ·obtain ⟨o, e, r⟩ := hl2
   exact ⟨o, oth _ _ hS.2.2.2.2.2.2.symm (hk' _ _ D.l2z D.l2TO D.l2i1 D.l2i2 e), r⟩
  ·show lo ≤ (h'.update S _).objs.size
   rw [usz]; exact Nat.le_succ_of_le hlo'
  ·refine ⟨List.pairwise_append.mpr ⟨hP.1, List.pairwise_singleton _ _, fun a ha b hb => by rw [List.mem_singleton.mp hb]; exact low a ha⟩, fun a ha => ?_, fun j a e => ?_⟩
   ·show lo ≤ a ∧ a < (h'.update S _).objs.size
    rw [usz]
    rcases List.mem_append.mp ha with q | q
    ·exact ⟨(hP.2.1 a q).1, Nat.lt_succ_of_lt (hP.2.1 a q).2⟩
    ·rw [List.mem_singleton.mp q]; exact ⟨hlo', Nat.lt_succ_self _⟩
   ·by_cases hj : j < as.length
    ·rw [List.getElem?_append_left hj] at e
     obtain ⟨x, y, p1, p2, p⟩ := hP.2.2 j a e
     exact ⟨x, y, p1, p2, keep a (List.mem_of_getElem? e) _ p⟩
    ·rw [List.getElem?_append_right (by omega)] at e
     have hj' : j = i := by
      have := (List.getElem?_eq_some_iff.mp e).1
      simp at this
      omega
     rw [hj', hla, Nat.sub_self] at e
     have ea : s.heap.objs.size = a := by simpa using e
     subst ea
     subst hj'
     exact ⟨_, _, ex, ey, oth _ _ nS hp⟩
  ·intro h'' as' c' a1 a2 a3 a4
   exact hR h'' as' c' a1 a2 a3 fun b o b0 b1 b2 b3 b4 e => a4 b o b0 b1 b2 b3 b4 (oth b o b0 (hk' b o b1 b2 b3 b4 e))
theorem zip_extend {R : Result → Shared → Prop} {z TI TO i1 i2 l1 l2 S : Addr} {lo c₀ : Nat} {xs ys : Array Value} (hh : A.in1.handled = none) (D : ZipApart z TI TO i1 i2 l1 l2) (hS : S ≠ z ∧ S ≠ TI ∧ S ≠ TO ∧ S ≠ i1 ∧ S ≠ i2 ∧ S ≠ l1 ∧ S ≠ l2) (hlo : z < lo ∧ TO < lo ∧ i1 < lo ∧ i2 < lo ∧ S < lo) (hlen : xs.size = ys.size) (hn : xs.size ≤ sizeLine) (res : Value)
  (st : ZipSt s.heap z TI TO i1 i2 l1 l2 0) (hz : IsZip s.heap z TI TO .none) (hl1 : s.heap.IsList l1 xs) (hl2 : s.heap.IsList l2 ys) (hlo' : lo ≤ s.heap.objs.size) (hSo : s.heap.get? S = some { cls := .type "list", data := .seq #[] c₀ })
  (hR : ∀ h' as' c', h'.get? S = some { cls := .type "list", dict := none, data := .seq (as'.map Value.ref).toArray c', slots := #[] } → as'.length = xs.size → ZPs h' lo as' xs ys →
   (∀ b o, b ≠ S → b ≠ z → b ≠ TO → b ≠ i1 → b ≠ i2 → s.heap.get? b = some o → h'.get? b = some o) → R (.ok (.ret res)) { s with heap := h' }) :
  wpAny (model prog w) A.in1 (Builtin.List.listExtendWith (.ref S) (.ref z) res)
   (fun fin s' => match fin with | .done f => R (.ok f) s' | .again c' => c'.quiet = true ∧ codeAny (model prog w) A c' R s') (fun e s' => R (.error e) s') s := by
 have hT : s.TypeIs (.ref z) "zip" := ⟨_, hz, rfl⟩
 unfold Builtin.List.listExtendWith
 refine wpAny_bind (wpAny_typeOf hT ?_)
 have h1 : Builtin.List.listSameRef (.ref S) (.ref z) = false := by simp [Builtin.List.listSameRef, hS.1]
 have h2 : (Value.type "zip" == Value.type "list") = false := by decide
 have h3 : (Value.type "zip" == Value.type "tuple") = false := by decide
 simp only [h1, h2, h3, Bool.or_false, Bool.false_eq_true, if_false]
 refine wpAny_bind (wpAny_pyIter_zip hz ?_)
 refine wpAny_bind (wpAny_holding ?_)
 unfold Builtin.List.listLengthHint
 refine wpAny_bind (wpAny_specialOf hT zip_no_len ?_)
 show wpAny _ A.in1 (specialOf (Value.ref z) (Str.ofString "__length_hint__") >>= _) _ _ _
 refine wpAny_bind (wpAny_specialOf hT zip_no_hint ?_)
 refine wpAny_pure ?_
 show wpAny _ A.in1 (rule "list.extend.makes-room" >>= fun _ => Builtin.List.listTouch (.ref S) >>= fun _ =>
  again (.builtin "list.extend.loop" ⟨[.ref S, .ref z, res], []⟩)) _ _ _
 refine wpAny_bind (wpAny_rule ?_)
 refine wpAny_bind ?_
 show wpAny _ A.in1 (updateSeq S (·.push .none) >>= fun _ => updateSeq S (·.pop)) _ _ _
 refine wpAny_bind (wpAny_updateSeq hSo rfl ?_)
 have hS₂ := Heap.get?_update_self (Obj.mapSeq (·.push Value.none)) hSo rfl
 refine wpAny_updateSeq (hz := by seq_fits) hS₂ rfl ?_
 have hS₃ := Heap.get?_update_self (Obj.mapSeq (·.pop)) hS₂ rfl
 have oth : ∀ b o, b ≠ S → s.heap.get? b = some o → ((s.heap.update S (Obj.mapSeq (·.push Value.none))).update S (Obj.mapSeq (·.pop))).get? b = some o :=
  fun b o hb e => (Heap.get?_update_other _ _ (Ne.symm hb)).trans ((Heap.get?_update_other _ _ (Ne.symm hb)).trans e)
 have usz : ((s.heap.update S (Obj.mapSeq (·.push Value.none))).update S (Obj.mapSeq (·.pop))).objs.size = s.heap.objs.size := by rw [(Heap.SameBut.update ..).1, (Heap.SameBut.update ..).1]
 obtain ⟨q1, q2, q3, q4⟩ := st
 obtain ⟨o1, e1, r1⟩ := hl1
 obtain ⟨o2, e2, r2⟩ := hl2
 have hTO : ∃ a b, IsPair s.heap TO a b := by
  rcases q4 with ⟨_, _, h⟩ | ⟨T, f, oT, h, _⟩
  ·exact h
  ·have := hz.symm.trans h
   have := congrArg (fun o => (o.map fun o : Obj => o.data)) this
   simp [rawInt] at this
 obtain ⟨ta, tb, hTO⟩ := hTO
 refine wpAny_pure ⟨plainId_quiet F.plain_extend_loop _, zip_loop hh D hS hlo hlen hn res xs.size 0 _ [] _ rfl (Nat.zero_le _)
  ⟨oth _ _ hS.2.1.symm q1, q2.at fun o e => oth _ _ hS.2.2.2.1.symm e, q3.at fun o e => oth _ _ hS.2.2.2.2.1.symm e, .inl ⟨rfl, oth _ _ hS.1.symm hz, ta, tb, oth _ _ hS.2.2.1.symm hTO⟩⟩
  ⟨o1, oth _ _ hS.2.2.2.2.2.1.symm e1, r1⟩ ⟨o2, oth _ _ hS.2.2.2.2.2.2.symm e2, r2⟩ (by show lo ≤ Array.size _; rw [usz]; exact hlo') hS₃ rfl ⟨.nil, (fun a h => nomatch h), fun j a h => by simp at h⟩ fun h' as' c' a1 a2 a3 a4 => ?_⟩
 exact hR h' as' c' a1 a2 a3 fun b o b0 b1 b2 b3 b4 e => a4 b o b0 b1 b2 b3 b4 (oth b o b0 e)
theorem zip_list_init {R : Result → Shared → Prop} {z TI TO i1 i2 l1 l2 S : Addr} {lo : Nat} {xs ys : Array Value} (hh : A.in1.handled = none) (D : ZipApart z TI TO i1 i2 l1 l2) (hS : S ≠ z ∧ S ≠ TI ∧ S ≠ TO ∧ S ≠ i1 ∧ S ≠ i2 ∧ S ≠ l1 ∧ S ≠ l2) (hlo : z < lo ∧ TO < lo ∧ i1 < lo ∧ i2 < lo ∧ S < lo) (hlen : xs.size = ys.size) (hn : xs.size ≤ sizeLine)
  (st : ZipSt s.heap z TI TO i1 i2 l1 l2 0) (hz : IsZip s.heap z TI TO .none) (hl1 : s.heap.IsList l1 xs) (hl2 : s.heap.IsList l2 ys) (hlo' : lo ≤ s.heap.objs.size) (hSo : s.heap.get? S = some { cls := .type "list", data := .seq #[] })
  (hTO : ∃ a b, IsPair s.heap TO a b)
  (hR : ∀ h' as' c', h'.get? S = some { cls := .type "list", dict := none, data := .seq (as'.map Value.ref).toArray c', slots := #[] } → as'.length = xs.size → ZPs h' lo as' xs ys →
   (∀ b o, b ≠ S → b ≠ z → b ≠ TO → b ≠ i1 → b ≠ i2 → s.heap.get? b = some o → h'.get? b = some o) → R (.ok (.ret .none)) { s with heap := h' }) :
  wpAny (model prog w) A.in1 (Builtin.«list.__init__» ⟨[.ref S, .ref z], []⟩)
   (fun fin s' => match fin with | .done f => R (.ok f) s' | .again c' => c'.quiet = true ∧ codeAny (model prog w) A c' R s') (fun e s' => R (.error e) s') s := by
 show wpAny _ A.in1 (do let old ← Builtin.List.listItems (.ref S); Builtin.List.listUpdate (.ref S) (fun _ => #[]); letGo old.toList.reverse; Builtin.List.listExtendWith (.ref S) (.ref z) .none) _ _ s
 refine wpAny_bind ?_
 unfold Builtin.List.listItems
 refine wpAny_bind (wpAny_seqItems hSo rfl (wpAny_pure ?_))
 show wpAny _ A.in1 (updateSeq S (fun _ => #[]) >>= fun _ => letGo (#[] : Array Value).toList.reverse >>= fun _ => Builtin.List.listExtendWith (.ref S) (.ref z) .none) _ _ s
 refine wpAny_bind (wpAny_updateSeq hSo rfl ?_)
 have hS₂ := Heap.get?_update_self (Obj.mapSeq (fun _ => (#[] : Array Value))) hSo rfl
 have oth : ∀ b o, b ≠ S → s.heap.get? b = some o → (s.heap.update S (Obj.mapSeq (fun _ => (#[] : Array Value)))).get? b = some o :=
  fun b o hb e => (Heap.get?_update_other _ _ (Ne.symm hb)).trans e
 have usz : (s.heap.update S (Obj.mapSeq (fun _ => (#[] : Array Value)))).objs.size = s.heap.objs.size := (Heap.SameBut.update ..).1
 obtain ⟨q1, q2, q3, q4⟩ := st
 obtain ⟨o1, e1, r1⟩ := hl1
 obtain ⟨o2, e2, r2⟩ := hl2
 obtain ⟨ta, tb, hTO⟩ := hTO
 refine wpAny_bind (wpAny_letGo ?_)
 refine zip_extend hh D hS hlo hlen hn .none
  ⟨oth _ _ hS.2.1.symm q1, q2.at fun o e => oth _ _ hS.2.2.2.1.symm e, q3.at fun o e => oth _ _ hS.2.2.2.2.1.symm e, .inl ⟨rfl, oth _ _ hS.1.symm hz, ta, tb, oth _ _ hS.2.2.1.symm hTO⟩⟩
  (oth _ _ hS.1.symm hz) ⟨o1, oth _ _ hS.2.2.2.2.2.1.symm e1, r1⟩ ⟨o2, oth _ _ hS.2.2.2.2.2.2.symm e2, r2⟩ (by show lo ≤ Array.size _; rw [usz]; exact hlo') hS₂ fun h' as' c' a1 a2 a3 a4 => ?_
 exact hR h' as' c' a1 a2 a3 fun b o b0 b1 b2 b3 b4 e => a4 b o b0 b1 b2 b3 b4 (oth b o b0 e)
theorem call_list_zip {z TI TO i1 i2 l1 l2 : Addr} {xs ys : Array Value} {Q : Value → Shared → Prop} (hh : A.handled = none) (D : ZipApart z TI TO i1 i2 l1 l2) (hlen : xs.size = ys.size) (hn : xs.size ≤ sizeLine)
  (hz : IsZip s.heap z TI TO .none) (hTI : IsPair s.heap TI (.ref i1) (.ref i2)) (hTO : ∃ a b, IsPair s.heap TO a b) (h1 : s.heap.IsListIter i1 l1 0) (h2 : s.heap.IsListIter i2 l2 0) (hl1 : s.heap.IsList l1 xs) (hl2 : s.heap.IsList l2 ys)
  (hQ : ∀ h' as' c', h'.get? s.heap.objs.size = some { cls := .type "list", dict := none, data := .seq (as'.map Value.ref).toArray c', slots := #[] } → as'.length = xs.size → ZPs h' (s.heap.objs.size + 1) as' xs ys →
   (∀ b o, b ≠ z → b ≠ TO → b ≠ i1 → b ≠ i2 → s.heap.get? b = some o → h'.get? b = some o) → Q (.ref s.heap.objs.size) { s with heap := h' }) :
  wpAny (model prog w) A (call (.type "list") [.ref z]) Q E s := by
 have lz := Heap.lt_size hz
 have lTI := Heap.lt_size hTI
 obtain ⟨ta, tb, hTO⟩ := hTO
 have lTO := Heap.lt_size hTO
 have li1 : i1 < s.heap.objs.size := by obtain ⟨o, e, _⟩ := id h1; exact Heap.lt_size e
 have li2 : i2 < s.heap.objs.size := by obtain ⟨o, e, _⟩ := id h2; exact Heap.lt_size e
 have ll1 : l1 < s.heap.objs.size := by obtain ⟨o, e, _⟩ := id hl1; exact Heap.lt_size e
 have ll2 : l2 < s.heap.objs.size := by obtain ⟨o, e, _⟩ := id hl2; exact Heap.lt_size e
 refine callType_codes (Q₁ := fun obj s₁ => obj = .ref s.heap.objs.size ∧ s₁ = { s with heap := s.heap.push { cls := .type "list", data := .seq #[] } }) F.called_list (F.typeCall_list_1 _) F.entry_list_init
  (code_list_new _ ⟨rfl, rfl⟩) fun obj s₁ h₁ => ?_
 obtain ⟨rfl, rfl⟩ := h₁
 have hS : (s.heap.push { cls := .type "list", data := .seq #[] }).get? s.heap.objs.size = some { cls := .type "list", data := .seq #[] } := Heap.get?_push_size _ rfl
 refine ⟨⟨_, hS, rfl⟩, F.args_list_init_2 _ _, zip_list_init (lo := s.heap.objs.size + 1) (by simp [hh]) D ⟨Nat.ne_of_gt lz, Nat.ne_of_gt lTI, Nat.ne_of_gt lTO, Nat.ne_of_gt li1, Nat.ne_of_gt li2, Nat.ne_of_gt ll1, Nat.ne_of_gt ll2⟩ ⟨Nat.lt_succ_of_lt lz, Nat.lt_succ_of_lt lTO, Nat.lt_succ_of_lt li1, Nat.lt_succ_of_lt li2, Nat.lt_succ_self _⟩ hlen hn
  ⟨Heap.get?_push_of_some _ hTI, h1.at fun o e => Heap.get?_push_of_some _ e, h2.at fun o e => Heap.get?_push_of_some _ e, .inl ⟨rfl, Heap.get?_push_of_some _ hz, ta, tb, Heap.get?_push_of_some _ hTO⟩⟩ (Heap.get?_push_of_some _ hz) (hl1.push _) (hl2.push _) (by rw [Heap.size_push]; exact Nat.le_refl _) hS ⟨ta, tb, Heap.get?_push_of_some _ hTO⟩ fun h' as' c' a1 a2 a3 a4 => ?_⟩
 exact ⟨rfl, hQ h' as' c' a1 a2 a3 fun b o b1 b2 b3 b4 e => a4 b o (Nat.ne_of_lt (Heap.lt_size e)) b1 b2 b3 b4 (Heap.get?_push_of_some _ e)⟩
end
noncomputable def tLZ (K : PySem.W.Frag) (ta : TA) : TE := fun σ H Q => ta σ H fun vs H1 => ∃ a b xs ys, vs = [.ref a, .ref b] ∧ SqL K H1 a xs ∧ SqL K H1 b ys ∧ xs.length = ys.length ∧ ∀ (l : Addr) (as : List Addr) (H' : Hp), Same H1 H' → H1 l = none → H' l = some (.lst (as.map V.ref)) → as.length = xs.length →
 (∀ (i : Nat) (c : Addr) (x y : V), as[i]? = some c → xs[i]? = some x → ys[i]? = some y → H' c = some (.tup [x, y])) → Q (.ref l) H'
theorem rd_lz {K : PySem.W.Frag} {ta : TA} {σ : St} {H : Hp} {Q : VK} (h : ta σ H fun vs H1 => ∃ a b xs ys, vs = [.ref a, .ref b] ∧ SqL K H1 a xs ∧ SqL K H1 b ys ∧ xs.length = ys.length ∧ ∀ (l : Addr) (as : List Addr) (H' : Hp), Same H1 H' → H1 l = none → H' l = some (.lst (as.map V.ref)) → as.length = xs.length →
 (∀ (i : Nat) (c : Addr) (x y : V), as[i]? = some c → xs[i]? = some x → ys[i]? = some y → H' c = some (.tup [x, y])) → Q (.ref l) H') : tLZ K ta σ H Q := h
theorem pe_listzip {X : Cx} {a b : Expr} {ta : TA} {p p' pos pos' : Pos} (hc : X.calm = true) (hgl : Gl X "list") (hml : X.mg "list" = none) (hgz : Gl X "zip") (hmz : X.mg "zip" = none) (ha : PA X [a, b] ta)
  (hs0 : starEach [.Call (.Name "zip" p') [a, b] [] pos'] X.env = [(false, eval (.Call (.Name "zip" p') [a, b] [] pos') X.env)] := by rfl)
  (hs : starEach [a, b] X.env = [(false, eval a X.env), (false, eval b X.env)] := by rfl) (hs2 : starEach [b] X.env = [(false, eval b X.env)] := by rfl) :
  PE X (.Call (.Name "list" p) [.Call (.Name "zip" p') [a, b] [] pos'] [] pos) (tLZ X.K ta) := by
 intro pins s σ H Q I h
 refine wpAny_Call_Name_kw (ld_blt I hgl hml bt_list ?_)
 refine PyProof.Rows.callWith_type1 ?_ hs0 rfl
 rw [hs0]
 refine Calls.spliced_cons ?_
 refine Call_ (ld_blt I hgz hmz bt_zip (PyProof.Rows.callWith_type1 (thn (ha pos' pins s σ H _ I h) fun us s1 ⟨vs, H1, I1, r1, q1⟩ => ?_) (by rw [hs, hs2]) (by rw [hs2]; rfl)))
 obtain ⟨l1, l2, xs, ys, rfl, hq, hr, hlen, q⟩ := q1
 cases r1 with
 | cons r rr =>
  cases rr with
  | cons r' rr =>
   cases rr
   cases r
   cases r'
   obtain ⟨its, rv, pl1, hz1⟩ := I1.list hq
   obtain ⟨jts, rw', pl2, hz2⟩ := I1.list hr
   have lx := rv.length
   have ly := rw'.length
   refine call_zip_2 pl1.isList pl2.isList fun h' a1 a2 a3 a4 a5 a6 hk => ?_
   refine Calls.spliced_nil ?_
   have ll1 : l1 < s1.heap.objs.size := by obtain ⟨o, e, _⟩ := id pl1.isList; exact Heap.lt_size e
   have ll2 : l2 < s1.heap.objs.size := by obtain ⟨o, e, _⟩ := id pl2.isList; exact Heap.lt_size e
   have up : ∀ {l k : Nat}, l < s1.heap.objs.size → l ≠ s1.heap.objs.size + k := fun h => Nat.ne_of_lt (Nat.lt_of_lt_of_le h (Nat.le_add_right _ _))
   refine call_list_zip (s := { s1 with heap := h' }) (xs := its.toArray) (ys := jts.toArray) (I1.ok.hd hc)
    ⟨ne_add (by decide), ne_add (by decide), ne_add (i := 0) (by decide), ne_add (by decide), ne_add (by decide), ne_add (j := 0) (by decide), ne_add (by decide), ne_add (j := 0) (by decide), ne_add (by decide), ne_add (i := 0) (by decide), up ll1, up ll1, up (k := 0) ll1, up ll1, up ll2, up ll2, up (k := 0) ll2, up ll2⟩
    (by rw [List.size_toArray, List.size_toArray]; omega) (by rw [List.size_toArray]; omega) a1 a2 ⟨_, _, a3⟩ a4 a5 ?_ ?_ fun h2 as c o2 la zp k2 => ?_
   ·obtain ⟨o, e, r⟩ := pl1.isList
    exact ⟨o, hk _ _ e, r⟩
   ·obtain ⟨o, e, r⟩ := pl2.isList
    exact ⟨o, hk _ _ e, r⟩
   have a6 : h'.objs.size = s1.heap.objs.size + 5 := a6
   have o2 : h2.get? h'.objs.size = _ := o2
   have zp : ZPs h2 (h'.objs.size + 1) as its.toArray jts.toArray := zp
   rw [a6] at o2 zp
   show EP X pins σ Q (.ref h'.objs.size) _
   rw [a6]
   have la' : as.length = its.length := by rw [List.size_toArray] at la; exact la
   have k3 : ∀ b o, s1.heap.get? b = some o → h2.get? b = some o := fun b o e => k2 b o (up (Heap.lt_size e)) (up (Heap.lt_size e)) (up (k := 0) (Heap.lt_size e)) (up (Heap.lt_size e)) (hk b o e)
   have I2 : Inv X pins σ H1 { s1 with heap := h2 } := I1.kept (t' := s1.toks) k3
   have lo : ∀ c ∈ as, s1.heap.objs.size ≤ c := fun c hc => Nat.le_trans (Nat.le_add_right _ 6) (zp.2.1 c hc).1
   have ws : ∀ q ∈ ((s1.heap.objs.size + 5, HO.lst (as.map V.ref)) :: (List.range as.length).map fun i => (as.getD i 0, HO.tup [xs.getD i .non, ys.getD i .non])), H1 q.1 = none ∧ NewA X pins q.1 ∧ ∀ H', ObjOk X.prog X.w H' h2 q.1 q.2 := fun q hq => by
    rcases List.mem_cons.mp hq with rfl | hq
    ·exact ⟨I1.hok.fresh (Nat.le_add_right _ _), I1.newA (Nat.le_add_right _ _), fun H' => ⟨by rw [List.length_map]; omega, as.map Value.ref, c, valsR as, o2⟩⟩
    ·obtain ⟨i, hi, rfl⟩ := List.mem_map.mp hq
     have hi := List.mem_range.mp hi
     have ea : as[i]? = some (as.getD i 0) := by rw [List.getD_eq_getElem?_getD, List.getElem?_eq_getElem hi]; rfl
     have lc := lo _ (List.mem_of_getElem? ea)
     obtain ⟨u, v, e1, e2, pr⟩ := zp.2.2 i _ ea
     have ex : xs[i]? = some (xs.getD i .non) := by rw [List.getD_eq_getElem?_getD, List.getElem?_eq_getElem (by omega)]; rfl
     have ey : ys[i]? = some (ys.getD i .non) := by rw [List.getD_eq_getElem?_getD, List.getElem?_eq_getElem (by omega)]; rfl
     obtain ⟨u', eu, ru⟩ := rv.get ex
     obtain ⟨v', ev, rv'⟩ := rw'.get ey
     have : u = u' := by have := e1.symm.trans (show its.toArray[i]? = some u' by simpa using eu); exact Option.some.inj this
     subst this
     have : v = v' := by have := e2.symm.trans (show jts.toArray[i]? = some v' by simpa using ev); exact Option.some.inj this
     subst this
     exact ⟨I1.hok.fresh lc, I1.newA lc, fun H' => ⟨(by show 2 ≤ sizeLine; decide), [u, v], .cons ru (.cons rv' .nil), ⟨_, pr, rfl, _, rfl⟩⟩⟩
   have nd : (((s1.heap.objs.size + 5, HO.lst (as.map V.ref)) :: (List.range as.length).map fun i => (as.getD i 0, HO.tup [xs.getD i .non, ys.getD i .non])).map (·.1)).Nodup := by
    rw [List.map_cons, List.nodup_cons, List.map_map]
    have e2 : (List.range as.length).map ((fun x => x.1) ∘ fun i => (as.getD i 0, HO.tup [xs.getD i .non, ys.getD i .non])) = as := List.ext_getElem (by simp) fun i h1 h2 => by
     rw [List.getElem_map, List.getElem_range]
     show as.getD i 0 = _
     rw [List.getD_eq_getElem?_getD, List.getElem?_eq_getElem h2]
     rfl
    rw [e2]
    exact ⟨fun h => absurd (zp.2.1 _ h).1 (Nat.not_succ_le_self _), zp.1.imp fun h => Nat.ne_of_lt h⟩
   obtain ⟨H', I3, s3, k4⟩ := Inv.trackAll _ I2 ws nd
   refine ⟨.ref (s1.heap.objs.size + 5), H', I3, rfl, q _ as H' s3 (I1.hok.fresh (Nat.le_add_right _ _)) (k4 _ List.mem_cons_self) (by omega) fun i c x y e1 e2 e3 => ?_⟩
   have hi := (List.getElem?_eq_some_iff.mp e1).1
   have := k4 (as.getD i 0, HO.tup [xs.getD i .non, ys.getD i .non]) (List.mem_cons_of_mem _ (List.mem_map.mpr ⟨i, List.mem_range.mpr hi, rfl⟩))
   rw [List.getD_eq_getElem?_getD, List.getD_eq_getElem?_getD, List.getD_eq_getElem?_getD, e1, e2, e3] at this
   exact this
end L2
namespace L2
open PySem PySem.Spec PyProof.Rows
section
variable {X : Cx} {tg : Expr}
end
section
variable {X : Cx}
end
section
variable {prog : Program} {w : World} {A : Around} {E : Value → Shared → Prop} {s : Shared}
end
section
variable {X : Cx} {pos : Pos}
end
end L2
namespace L2
open PySem PySem.Spec PyProof.Rows
end L2
namespace Sp
open PySem PySem.Builtin.Str PySem.StrLaws
noncomputable def pos (c : Nat) : Nat → List Nat → List Nat
 | _, [] => []
 | k, a :: r => if a = c then k :: pos c (k + 1) r else pos c (k + 1) r
theorem pos_no {c : Nat} : ∀ {k : Nat} {w r : List Nat}, c ∉ w → pos c k (w ++ r) = pos c (k + w.length) r
 | k, [], r, _ => rfl
 | k, a :: w, r, h => by
  have ne : ¬ a = c := fun e => h (by rw [e]; exact List.mem_cons_self)
  rw [List.cons_append, pos, if_neg ne, pos_no fun e => h (List.mem_cons_of_mem _ e), List.length_cons]
  congr 1
  omega
theorem pos_yes {c k : Nat} {r : List Nat} : pos c k (c :: r) = k :: pos c (k + 1) r := by rw [pos, if_pos rfl]
theorem sub_one {x : Str} {c i : Nat} : subAt x ⟨#[c]⟩ i = true ↔ x.cps.toList[i]? = some c := by
 unfold subAt
 rw [beq_iff_eq]
 show x.cps.extract i (i + 1) = #[c] ↔ _
 constructor
 ·intro h
  have h1 : (x.cps.extract i (i + 1))[0]? = some c := by rw [h]; rfl
  rw [Array.getElem?_extract] at h1
  split at h1
  ·rw [Array.getElem?_toList]; simpa using h1
  ·cases h1
 ·intro h
  rw [Array.getElem?_toList] at h
  have hi : i < x.cps.size := (Array.getElem?_eq_some_iff.mp h).1
  apply Array.ext
  ·simp; omega
  ·intro j h1 h2
   have : j = 0 := by simp at h2; omega
   subst this
   have e := (Array.getElem?_eq_some_iff.mp h).2
   simp [e]
theorem occ_from {x : Str} {c : Nat} : ∀ (l : List Nat) (k : Nat) (st : Array Nat × Nat), x.cps.toList.drop k = l → k + l.length = x.length → st.1.size ≤ k → st.2 ≤ k →
  (forIn (List.range' k (l.length + 1)) st (occBody x ⟨#[c]⟩ x.length (x.length + 1))).run.1.toList = st.1.toList ++ pos c k l
 | [], k, st, _, hk, h1, h2 => by
  rw [show List.range' k (([] : List Nat).length + 1) = [k] from rfl, List.forIn_cons]
  unfold occBody
  rw [if_neg (fun h => by have : k + 1 ≤ x.length := h.1.2; have : k + 0 = x.length := hk; omega)]
  rw [pos, List.append_nil]
  rfl
 | a :: l, k, st, hd, hk, h1, h2 => by
  rw [List.length_cons] at hk
  have ha : x.cps.toList[k]? = some a := by
   have := congrArg (fun l => l[0]?) hd
   simpa using this
  have hd' : x.cps.toList.drop (k + 1) = l := by
   rw [← List.drop_drop, hd]
   rfl
  rw [show List.range' k ((a :: l).length + 1) = k :: List.range' (k + 1) (l.length + 1) from rfl, List.forIn_cons]
  by_cases e : a = c
  ·subst e
   unfold occBody
   rw [if_pos ⟨⟨⟨by show st.1.size < x.length + 1; omega, h2⟩, by show k + 1 ≤ x.length; omega⟩, sub_one.mpr ha⟩, pos_yes]
   have := occ_from (c := a) l (k + 1) (st.1.push k, k + 1) hd' (by omega) (by rw [Array.size_push]; omega) (Nat.le_refl _)
   rw [show st.1.toList ++ k :: pos a (k + 1) l = (st.1.push k).toList ++ pos a (k + 1) l by simp, ← this]
   rfl
  ·unfold occBody
   rw [if_neg (fun h => e (Option.some.inj (ha.symm.trans (sub_one.mp h.2)))), pos, if_neg e]
   exact occ_from l (k + 1) st hd' (by omega) (by omega) (by omega)
theorem occ_one (x : Str) (c : Nat) : occurrences x ⟨#[c]⟩ 0 x.length (x.length + 1) = pos c 0 x.cps.toList := by
 rw [occ_eq]
 have := occ_from (x := x) (c := c) x.cps.toList 0 (#[], 0) rfl (by rw [Nat.zero_add]; rfl) (Nat.le_refl _) (Nat.le_refl _)
 rw [show x.length + 1 - 0 = x.cps.toList.length + 1 from rfl]
 simpa using this
noncomputable def glue (c : Nat) : List (List Nat) → List Nat
 | [] => []
 | [w] => w
 | w :: v :: r => w ++ c :: glue c (v :: r)
noncomputable def cutAll (x : Str) (st : Nat) (cuts : List Nat) : List Str := ((st :: cuts.map (· + 1)).zip (cuts ++ [x.length])).map fun (i, j) => strSub x i j
theorem cut_cons {x : Str} {st k : Nat} {cuts : List Nat} : cutAll x st (k :: cuts) = strSub x st k :: cutAll x (k + 1) cuts := rfl
theorem sub_mid {x : Str} {p w r : List Nat} (h : x.cps.toList = p ++ (w ++ r)) : strSub x p.length (p.length + w.length) = ⟨w.toArray⟩ := by
 unfold strSub
 congr 1
 apply Array.toList_inj.mp
 rw [Array.toList_extract, h]
 simp [List.extract]
theorem cut_all {x : Str} {c : Nat} : ∀ (ws : List (List Nat)) (p : List Nat), ws ≠ [] → (∀ w ∈ ws, c ∉ w) → x.cps.toList = p ++ glue c ws → cutAll x p.length (pos c p.length (glue c ws)) = ws.map fun w => ⟨w.toArray⟩
 | [], _, h, _, _ => absurd rfl h
 | [w], p, _, hw, hx => by
  have e : pos c p.length (glue c [w]) = [] := by
   have := pos_no (k := p.length) (r := []) (hw w List.mem_cons_self)
   rw [List.append_nil] at this
   exact this
  rw [e]
  have hx' : x.cps.toList = p ++ (w ++ []) := by rw [hx, List.append_nil]; rfl
  have hl : x.length = p.length + w.length := by
   have := congrArg List.length hx
   rw [List.length_append] at this
   exact this
  show [strSub x p.length x.length] = _
  rw [hl, sub_mid hx']
  rfl
 | w :: v :: r, p, _, hw, hx => by
  have e : pos c p.length (glue c (w :: v :: r)) = (p.length + w.length) :: pos c (p.length + w.length + 1) (glue c (v :: r)) := by
   show pos c p.length (w ++ c :: glue c (v :: r)) = _
   rw [pos_no (hw w List.mem_cons_self), pos_yes]
  have hx' : x.cps.toList = p ++ (w ++ c :: glue c (v :: r)) := hx
  have ih := cut_all (x := x) (c := c) (v :: r) (p ++ (w ++ [c])) (by simp) (fun y hy => hw y (List.mem_cons_of_mem _ hy)) (by rw [hx']; simp)
  rw [show (p ++ (w ++ [c])).length = p.length + w.length + 1 by simp; omega] at ih
  rw [e, cut_cons, sub_mid hx', ih]
  rfl
theorem split_ok {x : Str} {c : Nat} {ws : List (List Nat)} (h : ws ≠ []) (hw : ∀ w ∈ ws, c ∉ w) (hx : x.cps.toList = glue c ws) : partsBetween x (occurrences x ⟨#[c]⟩ 0 x.length (x.length + 1)) 1 = ws.map fun w => ⟨w.toArray⟩ := by
 rw [occ_one, hx]
 exact cut_all ws [] h hw hx
end Sp
namespace L2
open PySem PySem.Spec PyProof.Rows
section
variable {X : Cx}
theorem vals_from : ∀ (ws : List Str) (k : Nat), Vals (ws.map V.str) (strsFrom k ws)
 | [], _ => .nil
 | x :: r, k => .cons ⟨k, rfl⟩ (vals_from r (k + 1))
theorem mt_split : MtR X "str.split" (fun x vs H Q => ∃ (z : Str) (c : Nat) (v w : List Nat) (ws : List (List Nat)), x = .str z ∧ vs = [.str ⟨#[c]⟩] ∧ c < 256 ∧ (∀ u ∈ v :: w :: ws, c ∉ u) ∧ z.cps.toList = Sp.glue c (v :: w :: ws) ∧ ws.length + 2 ≤ sizeLine ∧ z.length ≤ sizeLine ∧
  ∀ p, H p = none → Q (.ref p) (upd H p (.lst (((v :: w :: ws).map fun u => (⟨u.toArray⟩ : Str)).map V.str)))) := by
 intro pins s σ H x vs val us Q I rx rv h
 obtain ⟨z, c, v, w, ws, rfl, rfl, hc, hw, hz, hl, hx, q⟩ := h
 obtain ⟨t, rfl⟩ := rx
 obtain ⟨u, rfl, t', rfl⟩ := vals1 rv
 have sp := Sp.split_ok (x := z) (c := c) (ws := v :: w :: ws) (by simp) hw hz
 have z1 : 1 ≤ z.length := by
  have : z.length = (Sp.glue c (v :: w :: ws)).length := by rw [← hz]; rfl
  rw [this]
  show 1 ≤ (v ++ c :: Sp.glue c (w :: ws)).length
  rw [List.length_append, List.length_cons]
  omega
 have k1 : Builtin.Str.strKind ⟨#[c]⟩ = 1 := by
  unfold Builtin.Str.strKind
  rw [if_pos (by simpa using hc)]
 have k2 : 1 ≤ Builtin.Str.strKind z := by
  unfold Builtin.Str.strKind
  split
  ·exact Nat.le_refl _
  ·split <;> decide
 have h1 : (decide (z.length < (⟨#[c]⟩ : Str).length) || decide (Builtin.Str.strKind z < Builtin.Str.strKind ⟨#[c]⟩)) = false := by
  rw [k1]
  show (decide (z.length < 1) || decide (Builtin.Str.strKind z < 1)) = false
  rw [decide_eq_false (show ¬ z.length < 1 by omega), decide_eq_false (show ¬ Builtin.Str.strKind z < 1 by omega)]
  rfl
 have hf : (Builtin.Str.occurrences z ⟨#[c]⟩ 0 z.length (z.length + 1)).isEmpty = false := by
  rw [Sp.occ_one, hz]
  show (Sp.pos c 0 (v ++ c :: Sp.glue c (w :: ws))).isEmpty = false
  rw [Sp.pos_no (hw v List.mem_cons_self), Sp.pos_yes]
  rfl
 have hn : (Builtin.Str.partsBetween z (Builtin.Str.occurrences z ⟨#[c]⟩ 0 z.length (z.length + 1)) (⟨#[c]⟩ : Str).length).length ≤ sizeLine := by
  show (Builtin.Str.partsBetween z _ 1).length ≤ _
  rw [sp, List.length_map]
  exact hl
 refine call_meets F.slot_str_split (typeIs_str _ _ _) F.entry_str_split (F.args_str_split_2 _ _) (meets_str_split_sep z ⟨#[c]⟩ t t' h1 rfl hf hx hn) ?_
 rw [show (⟨#[c]⟩ : Str).length = 1 from rfl, sp]
 refine ⟨.ref s.heap.objs.size, _, I.laid (o := .lst (((v :: w :: ws).map fun u => (⟨u.toArray⟩ : Str)).map V.str)) (fun b ob e => Heap.get?_push_of_some _ e) (Nat.le_refl _) ?_, rfl, q _ (I.hok.fresh (Nat.le_refl _))⟩
 exact ⟨by rw [List.length_map, List.length_map]; exact hl, _, 0, vals_from _ _, Heap.get?_push_size _ rfl⟩
end
end L2
namespace L2
open PySem PySem.Spec PyProof.Rows
noncomputable def ev {α : Type} : List α → List α
 | [] => []
 | [a] => [a]
 | a :: _ :: r => a :: ev r
theorem ev_pick {α : Type} : ∀ l : List α, (List.range ((l.length + 1) / 2)).filterMap (fun j => l[2 * j]?) = ev l
 | [] => by simp [ev]
 | [a] => by simp [ev, List.range_succ]
 | a :: b :: r => by
  rw [show ((a :: b :: r).length + 1) / 2 = (r.length + 1) / 2 + 1 by rw [List.length_cons, List.length_cons]; omega, List.range_succ_eq_map, List.filterMap_cons]
  show a :: _ = _
  rw [List.filterMap_map]
  show a :: List.filterMap (fun j => (a :: b :: r)[2 * (j + 1)]?) _ = a :: ev r
  rw [← ev_pick r]
  rfl
theorem ev_len {α : Type} : ∀ l : List α, (ev l).length ≤ l.length
 | [] => Nat.le_refl _
 | [a] => Nat.le_refl _
 | a :: b :: r => by
  have := ev_len r
  show (ev r).length + 1 ≤ r.length + 1 + 1
  omega
theorem vals_ev : ∀ {xs : List V} {us : List Value}, Vals xs us → Vals (ev xs) (ev us)
 | _, _, .nil => .nil
 | _, _, .cons r .nil => .cons r .nil
 | _, _, .cons r (.cons _ t) => .cons r (vals_ev t)
theorem pick_two (items : Array Value) (k : Nat) (hk : k ≤ items.size) : slicePick items (some (k : Int)) none (some 2) = (ev (items.toList.drop k)).toArray := by
 unfold slicePick
 have b : sliceBounds (some (k : Int)) none (some 2) items.size = ((k : Int), (items.size : Int), 2) := by
  unfold sliceBounds
  simp only [Option.getD_some]
  rw [if_neg (show ¬ ((k : Int) < 0) by omega), if_pos (show (2 : Int) > 0 by decide), if_pos (show (2 : Int) > 0 by decide)]
  congr 1
  omega
 rw [b]
 show ((sliceRange (k : Int) (items.size : Int) 2).filterMap (items[·]?)).toArray = _
 congr 1
 rw [← ev_pick]
 unfold sliceRange
 have c : ((if (2 : Int) > 0 then (if (k : Int) < (items.size : Int) then ((items.size : Int) - k + 2 - 1) / 2 else 0) else (if (k : Int) > (items.size : Int) then ((k : Int) - items.size - 2 - 1) / (-2) else 0) : Int)).toNat = ((items.toList.drop k).length + 1) / 2 := by
  rw [if_pos (by decide), List.length_drop, Array.length_toList]
  split <;> omega
 show (List.map _ (List.range (Int.toNat _))).filterMap _ = _
 rw [c, List.filterMap_map]
 congr 1
 funext j
 show items[((k : Int) + 2 * (j : Int)).toNat]? = _
 rw [List.getElem?_drop, Array.getElem?_toList, show ((k : Int) + 2 * (j : Int)).toNat = k + 2 * j by omega]
section
variable {X : Cx} {e : Expr} {te : TE}
noncomputable def tStep (K : PySem.W.Frag) (te : TE) (tl ts : TO) : TE := fun σ H Q => te σ H fun x H1 => tl σ H1 fun lo H2 => ts σ H2 fun st H3 => st = some 2 ∧ ∃ (a : Addr) (xs : List V) (k : Nat), lo = some (k : Int) ∧ k ≤ xs.length ∧ x = .ref a ∧ SqL K H3 a xs ∧ ∀ p, H3 p = none → Q (.ref p) (upd H3 p (.lst (ev (xs.drop k))))
theorem pe_step {lo st : Expr} {tl ts : TO} {p2 pos : Pos} (he : PE X e te) (hl : PO X (some lo) tl) (hs : PO X (some st) ts) : PE X (.Subscript e (.Slice (some lo) none (some st) p2) pos) (tStep X.K te tl ts) := by
 intro pins s σ H Q I h
 refine Subscript_ (thn (he pins s σ H _ I h) fun v s1 ⟨x, H1, I1, r1, q1⟩ => ?_)
 refine wpAny_Slice ?_
 refine thn (hl pins s1 σ H1 _ I1 q1) fun vl s2 ⟨lo', H2, I2, plo, q2⟩ => ?_
 rw [evalPart_none]
 refine wpAny_pure ?_
 refine thn (hs pins s2 σ H2 _ I2 q2) fun vk s3 ⟨so, H3, I3, pk, est, a, xs, k, elo, hk, ex, hx, q⟩ => ?_
 subst est ex elo
 cases r1
 have I4 : Inv X pins σ H3 { s3 with heap := s3.heap.push { cls := .type "slice", data := .fields #[vl, .none, vk] } } := I3.kept (t' := s3.toks) fun b ob q => Heap.get?_push_of_some _ q
 obtain ⟨its, r, ht, hz⟩ := I4.list hx
 have hlen := r.length
 show wpAny (model X.prog X.w) X.A (subscriptTail e (.Slice (some lo) none (some st) p2) (.ref a) (.ref s3.heap.objs.size)) (EP X pins σ Q) X.xe { s3 with heap := s3.heap.push { cls := .type "slice", data := .fields #[vl, .none, vk] } }
 refine tail_any (ops := [.ref a, .ref s3.heap.objs.size]) ht.isList.typeIs slot_list_getitem.lookup ?_ (by with_unfolding_all rfl)
 refine wpAny_getItem_list_slice ht.isList (Heap.IsSliceOf.new ..) plo .none pk (by decide) ?_ (by rw [List.size_toArray] <;> omega)
 rw [pick_two _ _ (by rw [List.size_toArray]; omega)]
 refine ⟨.ref (s3.heap.push { cls := .type "slice", data := .fields #[vl, .none, vk] }).objs.size, _, I4.laid (t' := s3.toks) (o := .lst (ev (xs.drop k))) (fun b ob q => Heap.get?_push_of_some _ q) (Nat.le_refl _) ?_, rfl, q _ (I4.hok.fresh (Nat.le_refl _))⟩
 refine ⟨?_, _, 0, vals_ev (r.drop k), Heap.get?_push_size _ rfl⟩
 have := ev_len (xs.drop k)
 rw [List.length_drop] at this
 omega
end
theorem rd_step {K : PySem.W.Frag} {te : TE} {tl ts : TO} {σ : St} {H : Hp} {Q : VK} (h : te σ H fun x H1 => tl σ H1 fun lo H2 => ts σ H2 fun st H3 => st = some 2 ∧ ∃ (a : Addr) (xs : List V) (k : Nat), lo = some (k : Int) ∧ k ≤ xs.length ∧ x = .ref a ∧ SqL K H3 a xs ∧ ∀ p, H3 p = none → Q (.ref p) (upd H3 p (.lst (ev (xs.drop k))))) : tStep K te tl ts σ H Q := h
end L2
namespace L2
open PySem PySem.Spec PyProof.Rows
theorem kHeap {K : PySem.W.Frag} {h : Heap} (x : K.In h) : ∃ hK : Heap, (∀ b o, K.lookup b = some o → hK.get? b = some o) ∧ ∀ b o, hK.get? b = some o → K.lookup b = some o := by
 have at_ : ∀ b, ((Array.range h.objs.size).map fun b => (K.lookup b).getD ⟨.none, none, .freed, #[]⟩)[b]? = if b < h.objs.size then some ((K.lookup b).getD ⟨.none, none, .freed, #[]⟩) else none := fun b => by
  rw [Array.getElem?_map]
  by_cases c : b < h.objs.size
  ·rw [if_pos c, Array.getElem?_range, if_pos c]; rfl
  ·rw [if_neg c, Array.getElem?_range, if_neg c]; rfl
 refine ⟨⟨(Array.range h.objs.size).map fun b => (K.lookup b).getD ⟨.none, none, .freed, #[]⟩, h.life⟩, fun b o e => ?_, fun b o e => ?_⟩
 ·have e1 := x b o e
  have lt := Heap.lt_size e1
  unfold Heap.get?
  show (match ((Array.range h.objs.size).map fun b => (K.lookup b).getD ⟨.none, none, .freed, #[]⟩)[b]? with | some ⟨_, _, .freed, _⟩ => none | o => o) = some o
  rw [at_, if_pos lt, e]
  show (match some o with | some ⟨_, _, .freed, _⟩ => none | o => o) = some o
  have nf : o.data ≠ .freed := fun z => by
   unfold Heap.get? at e1
   split at e1
   ·cases e1
   ·rename_i hn
    obtain ⟨c, d, da, sl⟩ := o
    simp only at z
    subst z
    exact hn _ _ _ e1
  obtain ⟨c, d, da, sl⟩ := o
  cases da <;> first | rfl | exact absurd rfl nf
 ·unfold Heap.get? at e
  have e : (match ((Array.range h.objs.size).map fun b => (K.lookup b).getD ⟨.none, none, .freed, #[]⟩)[b]? with | some ⟨_, _, .freed, _⟩ => none | o => o) = some o := e
  rw [at_] at e
  split at e
  ·cases e
  ·split at e
   ·cases hk : K.lookup b with
    | none => rw [hk] at e; rename_i hn _; rw [hk] at hn; rw [if_pos (by assumption)] at hn; exact absurd rfl (hn _ _ _)
    | some o' => rw [hk] at e; exact e
   ·cases e
end L2
namespace L2
open PySem PySem.Spec PyProof.Rows
section
variable {X : Cx}
theorem flats_vals : ∀ {vs : List Value} {ss : List Str}, KTD.Flats vs (ss.map PyData.str) → Vals (ss.map V.str) vs
 | _, [], .nil => .nil
 | _, x :: r, .cons f t => .cons (by have f := f {}; cases f; exact ⟨_, rfl⟩) (flats_vals t)
theorem ix_tabT : IxR X (fun x y H Q => ∃ (a : Addr) (k : Str) (D : List (Str × KTD.Dat)) (ss : List Str), x = .ref a ∧ y = .str k ∧ TabK X.K a D ∧ KTD.datumAt k D = some (.tup (ss.map PyData.str)) ∧ ss.length ≤ 100 ∧ ∀ b, (∀ H', SqT X.K H' b (ss.map V.str)) → Q (.ref b) H) := by
 intro value slice pins s σ H x y v u Q I rx ry h hs
 obtain ⟨a, k, D, ss, rfl, rfl, T, hd, hz, q⟩ := h
 cases rx
 obtain ⟨t, rfl⟩ := ry
 obtain ⟨hK, k1, k2⟩ := kHeap I.kIn
 have Hr : KTD.Here hK s.heap a D := ⟨KTD.text_of_look k1 T, fun b o e => I.kIn b o (k2 b o e)⟩
 refine tail_any (ops := [.ref a, .str k t]) Hr.typeIs slot_dict_getitem.lookup ?_ hs
 unfold getItem
 try with_reducible refine wpAny_holding ?_
 refine wpAny_bind (wpAny_sequenceKey Hr.typeIs (by decide) ?_)
 refine wpAny_bind (wpAny_callSpecial?_slot (name := Str.ofString "__getitem__") Hr.typeIs slot_dict_getitem
  (wpAny_call_entry slot_dict_getitem Hr.typeIs entry_dict_getitem ?_ (args_dict_getitem _ _)))
 show wpAny _ _ (dictGet a (.str k t) >>= _) _ _ s
 refine wpAny_bind (KTD.dictGet_text Hr (fun d v ha hv => wpAny_pure ⟨v, rfl, wpAny_pure ?_⟩) fun hn => by rw [hd] at hn; cases hn)
 rw [hd] at ha
 cases ha
 obtain ⟨b, vs, rfl, ⟨o, h1, h2, n, h3⟩, hf⟩ := hv
 have fv := flats_vals hf
 refine ⟨.ref b, H, I.tok _, rfl, q b fun H' => .inr ⟨o, vs.toArray, n, k2 _ _ h1, h2, h3, ?_, by simpa using fv⟩⟩
 have := fv.length
 rw [List.length_map] at this
 rw [List.size_toArray, sizeLine_eq]
 omega
theorem ix_tabI : IxR X (fun x y H Q => ∃ (a : Addr) (k : Str) (D : List (Str × KTD.Dat)) (i : Int), x = .ref a ∧ y = .str k ∧ TabK X.K a D ∧ KTD.datumAt k D = some (.flat (.int i)) ∧ Q (.int i) H) := by
 intro value slice pins s σ H x y v u Q I rx ry h hs
 obtain ⟨a, k, D, i, rfl, rfl, T, hd, q⟩ := h
 cases rx
 obtain ⟨t, rfl⟩ := ry
 have Hr : KTD.Here s.heap s.heap a D := ⟨PySem.W.kt_text_in I.kIn T, fun _ _ e => e⟩
 refine tail_any (ops := [.ref a, .str k t]) Hr.typeIs slot_dict_getitem.lookup ?_ hs
 unfold getItem
 try with_reducible refine wpAny_holding ?_
 refine wpAny_bind (wpAny_sequenceKey Hr.typeIs (by decide) ?_)
 refine wpAny_bind (wpAny_callSpecial?_slot (name := Str.ofString "__getitem__") Hr.typeIs slot_dict_getitem
  (wpAny_call_entry slot_dict_getitem Hr.typeIs entry_dict_getitem ?_ (args_dict_getitem _ _)))
 show wpAny _ _ (dictGet a (.str k t) >>= _) _ _ s
 refine wpAny_bind (KTD.dictGet_text Hr (fun d v ha hv => wpAny_pure ⟨v, rfl, wpAny_pure ?_⟩) fun hn => by rw [hd] at hn; cases hn)
 rw [hd] at ha
 cases ha
 have hv := hv s.heap
 cases hv
 exact ⟨.int i, H, I.tok _, ⟨_, rfl⟩, q⟩
end
end L2
namespace L2
open PySem PySem.Spec PyProof.Rows
section
variable {prog : Program} {w : World} {A : Around} {R : Result → Shared → Prop} {I : Addr} {fp wr : List Addr} {G : Array GenState → Array GenState → Prop} {n : Nat} {P : Nat → Value → Prop} {St : Nat → Shared → Prop}
theorem set_texts (W : WalksS prog w A.in1 I fp wr G n P St) (a : Addr) (ha : a ∉ fp) (xs : List Str) (nd : xs.Nodup) (hn : xs.length = n) (hx : ∀ i v, P i v → ∃ x t, xs[i]? = some x ∧ v = .str x t) (hb : n + 1 < scanBound) :
  ∀ (k i : Nat) (s : Shared), n - i = k → i ≤ n → St i s → s.heap.SetOf (strKind prog w) a (fun y => decide (y ∈ xs.take i)) i →
   (∀ s', Moved (a :: wr) G s s' → (∃ S, s'.heap.SetOf (strKind prog w) a S n) → R (.ok (.ret .none)) s') → codeAny (model prog w) A (.builtin "set.update.loop" ⟨[.ref a, .ref I], []⟩) R s := by
 have aw : a ∉ wr := fun z => ha (W.sub _ z)
 have up : ∀ c ∈ wr, c ∈ a :: wr := fun c h => List.mem_cons_of_mem _ h
 intro k
 induction k with
 | zero =>
  intro i s e le st hS q
  obtain rfl : i = n := by omega
  refine codeAny_builtin F.entry_set_update_loop ?_; rw [Around.under_plainId F.plain_set_update_loop _]
  refine wpAny_bind (m := pyNext (.ref I)) (W.done s _ _ st fun s' mv => wpAny_pure (q s' (mv.mono up) ⟨fun y => decide (y ∈ xs.take i), ?_⟩))
  obtain ⟨o, es, ep, t, h1, h2⟩ := hS
  exact ⟨o, es, ep, t, mv.heap a _ aw h1, h2⟩
 | succ k ih =>
  intro i s e le st hS q
  have lt : i < n := by omega
  refine codeAny_builtin F.entry_set_update_loop ?_; rw [Around.under_plainId F.plain_set_update_loop _]
  refine wpAny_bind (m := pyNext (.ref I)) (W.item i s _ _ lt st fun v s' pv st' mv => ?_)
  obtain ⟨x, t, ex, rfl⟩ := hx i v pv
  have hS' : s'.heap.SetOf (strKind prog w) a (fun y => decide (y ∈ xs.take i)) i := by
   obtain ⟨o, es, ep, tb, h1, h2⟩ := hS
   exact ⟨o, es, ep, tb, mv.heap a _ aw h1, h2⟩
  refine wpAny_bind (m := holding [Value.str x t] (setAdd a (.str x t))) (wpAny_holding ?_)
  unfold setAdd
  refine wpAny_holding ?_
  refine wpAny_bind ((strKind prog w).pyHash (k := x) (strKind_is _ _ _ _) ?_)
  refine wpAny_setAddHashed_of (knd := strKind prog w) (s := { s' with toks := s'.toks + 1 }) (strKind_is _ _ _ _) rfl hS' (by omega) fun h' sb hS2 => ?_
  have fresh_ : decide (x ∈ xs.take i) = false := decide_eq_false fun z => by
   obtain ⟨j, hj⟩ := List.getElem?_of_mem z
   rw [List.getElem?_take] at hj
   split at hj
   ·rename_i ji
    have := List.getElem?_inj (List.getElem?_eq_some_iff.mp hj).1 nd |>.mp (hj.trans ex.symm)
    omega
   ·cases hj
  rw [fresh_] at hS2
  have hS3 : h'.SetOf (strKind prog w) a (fun y => decide (y ∈ xs.take (i + 1))) (i + 1) := by
   refine SetOf_congr hS2 (fun y => ?_) rfl
   have e2 : xs.take (i + 1) = xs.take i ++ [x] := by
    rw [List.take_succ, ex]
    rfl
   rw [e2]
   by_cases c1 : y ∈ xs.take i <;> by_cases c2 : y = x <;> simp [c1, c2]
  refine wpAny_pure ⟨plainId_quiet F.plain_set_update_loop _, ih (i + 1) _ (by omega) lt (W.frame _ s' _ _ st' (Nat.le_succ _) fun b hb o e => ?_) hS3 fun s'' mv2 hS'' => ?_⟩
  ·rw [sb.2 b (fun z : b = a => ha (by rw [← z]; exact hb))]; exact e
  ·refine q s'' (Moved.trans W.gtrans ((mv.mono up).then_heap (Nat.le_succ _) fun b o hb e => ?_) mv2) hS''
   rw [sb.2 b (fun z : b = a => hb (by rw [z]; exact List.mem_cons_self))]; exact e
end
end L2
namespace L2
open PySem PySem.Spec PyProof.Rows
structure Nxt (prog : Program) (w : World) (it : Addr) (fp : List Addr) (P P' : Heap → Prop) (x : Value) : Prop where
 run : ∀ (A : Around) (s : Shared) (Q : Value → Shared → Prop) (E : Value → Shared → Prop), P s.heap → (∀ h', P' h' → Heap.SameBut it s.heap h' → Q x { s with heap := h' }) → wpAny (model prog w) A (Builtin.SmallTypes.nextOf (.ref it)) Q E s
 kp : ∀ h h', P h → (∀ b ∈ fp, ∀ o, h.get? b = some o → h'.get? b = some o) → P h'
 kp' : ∀ h h', P' h → (∀ b ∈ fp, ∀ o, h.get? b = some o → h'.get? b = some o) → P' h'
structure ZA (z TI TO i j : Addr) (f g : List Addr) : Prop where
 a1 : TI ≠ z
 a2 : TO ≠ z
 a3 : i ≠ z
 a4 : j ≠ z
 a5 : TI ≠ TO
 a6 : TI ≠ i
 a7 : TI ≠ j
 a8 : TO ≠ i
 a9 : TO ≠ j
 b1 : z ∉ f
 b2 : TO ∉ f
 b3 : j ∉ f
 c1 : z ∉ g
 c2 : TO ∉ g
 c3 : i ∉ g
section
variable {prog : Program} {w : World} {A : Around} {E : Value → Shared → Prop} {s : Shared}
theorem nextT_item {it t : Addr} {i : Nat} {xs : Array Value} {x : Value} {Q : Value → Shared → Prop} (hit : s.heap.IsTupleIter it t i) (ht : s.heap.IsTuple t xs) (hx : xs[i]? = some x)
  (hQ : ∀ h', h'.IsTupleIter it t (i + 1) → Heap.SameBut it s.heap h' → Q x { s with heap := h' }) : wpAny (model prog w) A (Builtin.SmallTypes.nextOf (.ref it)) Q E s := by
 obtain ⟨o, ho, hc, hd⟩ := id hit
 obtain ⟨ol, hol, _, nl, hdl⟩ := ht
 unfold Builtin.SmallTypes.nextOf
 refine wpAny_bind (wpAny_callSpecial?_slot (name := Str.ofString "__next__") hit.typeIs F.slot_tuple_iterator_next (wpAny_call_entry F.slot_tuple_iterator_next hit.typeIs F.entry_tuple_iterator_next ?_ (F.args_tuple_iterator_next_1 _)))
 show wpAny _ _ (field (.ref it) 0 >>= _) _ _ s
 refine wpAny_bind (wpAny_field ho hd (x := .ref t) rfl ?_)
 show wpAny _ _ (if (Value.ref t == Value.none) = true then _ else _) _ _ s
 rw [if_neg (show ¬ ((Value.ref t == Value.none) = true) from Bool.false_ne_true)]
 show wpAny _ _ (field (.ref it) 1 >>= _) _ _ s
 refine wpAny_bind (wpAny_field ho hd (x := .int i 0) rfl ?_)
 show wpAny _ _ (seqItems? (.ref t) >>= _) _ _ s
 refine wpAny_bind (wpAny_seqItems hol hdl ?_)
 simp only [Int.toNat_natCast, hx]
 refine wpAny_bind (wpAny_setField ho hd (by simp) (wpAny_pure ⟨x, rfl, wpAny_pure (hQ _ ?_ (Heap.SameBut.update ..))⟩))
 exact ⟨_, Heap.get?_update_self _ ho (Obj.isFreed_of_fields (Obj.data_mapFields hd _)), (Obj.cls_mapFields ..).trans hc, by rw [Obj.data_mapFields hd]; simp [rawInt]⟩
theorem nextT_end {it t : Addr} {i : Nat} {xs : Array Value} {Q : Value → Shared → Prop} (hh : A.handled = none) (hit : s.heap.IsTupleIter it t i) (ht : s.heap.IsTuple t xs) (hx : xs[i]? = none)
  (hE : ∀ h' e, Heap.ExtBut it s.heap h' → (∃ o, h'.get? e = some o ∧ o.cls = .type "StopIteration") → E (.ref e) { s with heap := h' }) : wpAny (model prog w) A (Builtin.SmallTypes.nextOf (.ref it)) Q E s := by
 obtain ⟨o, ho, hc, hd⟩ := id hit
 obtain ⟨ol, hol, _, nl, hdl⟩ := ht
 unfold Builtin.SmallTypes.nextOf
 refine wpAny_bind (wpAny_callSpecial?_slot (name := Str.ofString "__next__") hit.typeIs F.slot_tuple_iterator_next (wpAny_call_entry F.slot_tuple_iterator_next hit.typeIs F.entry_tuple_iterator_next ?_ (F.args_tuple_iterator_next_1 _)))
 show wpAny _ _ (field (.ref it) 0 >>= _) _ _ s
 refine wpAny_bind (wpAny_field ho hd (x := .ref t) rfl ?_)
 show wpAny _ _ (if (Value.ref t == Value.none) = true then _ else _) _ _ s
 rw [if_neg (show ¬ ((Value.ref t == Value.none) = true) from Bool.false_ne_true)]
 show wpAny _ _ (field (.ref it) 1 >>= _) _ _ s
 refine wpAny_bind (wpAny_field ho hd (x := .int i 0) rfl ?_)
 show wpAny _ _ (seqItems? (.ref t) >>= _) _ _ s
 refine wpAny_bind (wpAny_seqItems hol hdl ?_)
 simp only [Int.toNat_natCast, hx]
 refine wpAny_bind (wpAny_rule (wpAny_bind (wpAny_setField ho hd (by simp) ?_)))
 show wpAny _ _ (newExc (.type "StopIteration") [] >>= _) _ _ _
 refine wpAny_bind ?_
 simp only [newExc, newTuple]
 refine wpAny_bind (wpAny_newObj_type ?_ (by size_fits))
 refine wpAny_bind (m := firstArgMember _ _) (wpAny_of_eq (a := Value.none) (by first | rfl | (simp only [firstArgMember]; rfl)) ?_)
 refine wpAny_newObj_type ?_ (by size_fits)
 simp only [raiseNew]
 refine wpAny_bind (wpAny_handled ?_)
 first | rw [show A.in1.handled = none from hh] | rw [hh]
 refine wpAny_bind (wpAny_pure (wpAny_throw ?_))
 exact hE _ _ (((Heap.SameBut.update ..).extBut.push _).push _) ⟨_, Heap.get?_push_size _ rfl, rfl⟩
theorem nxt_tup {it t : Addr} {i : Nat} {xs : Array Value} {x : Value} (ne : t ≠ it) (hx : xs[i]? = some x) : Nxt prog w it [it, t] (fun h => h.IsTupleIter it t i ∧ h.IsTuple t xs) (fun h => h.IsTupleIter it t (i + 1) ∧ h.IsTuple t xs) x where
 run := fun A s Q E p q => nextT_item p.1 p.2 hx fun h' a sb => q h' ⟨a, p.2.extBut sb.extBut ne⟩ sb
 kp := fun h h' ⟨⟨o, e, r⟩, o', e', r'⟩ k => ⟨⟨o, k it (by simp) o e, r⟩, o', k t (by simp) o' e', r'⟩
 kp' := fun h h' ⟨⟨o, e, r⟩, o', e', r'⟩ k => ⟨⟨o, k it (by simp) o e, r⟩, o', k t (by simp) o' e', r'⟩
theorem nxt_lst {it t : Addr} {i : Nat} {xs : Array Value} {x : Value} (ne : t ≠ it) (hx : xs[i]? = some x) : Nxt prog w it [it, t] (fun h => h.IsListIter it t i ∧ h.IsList t xs) (fun h => h.IsListIter it t (i + 1) ∧ h.IsList t xs) x where
 run := fun A s Q E p q => wpAny_nextOf_list_item p.1 p.2 hx fun h' a sb => q h' ⟨a, p.2.extBut sb.extBut ne⟩ sb
 kp := fun h h' ⟨⟨o, e, r⟩, o', e', r'⟩ k => ⟨⟨o, k it (by simp) o e, r⟩, o', k t (by simp) o' e', r'⟩
 kp' := fun h h' ⟨⟨o, e, r⟩, o', e', r'⟩ k => ⟨⟨o, k it (by simp) o e, r⟩, o', k t (by simp) o' e', r'⟩
theorem zipG_item {z TI TO i j : Addr} {f g : List Addr} {P P' R R' : Heap → Prop} {x y a b : Value} {Q : Value → Shared → Prop} (N1 : Nxt prog w i f P P' x) (N2 : Nxt prog w j g R R' y) (D : ZA z TI TO i j f g)
  (hz : IsZip s.heap z TI TO .none) (hTI : IsPair s.heap TI (.ref i) (.ref j)) (hTO : IsPair s.heap TO a b) (h1 : P s.heap) (h2 : R s.heap)
  (hQ : ∀ h', IsZip h' z TI TO (rawInt s.heap.objs.size) → IsPair h' TO x y → P' h' → R' h' → IsPair h' s.heap.objs.size x y → (∀ c o, c ≠ z → c ≠ TO → c ≠ i → c ≠ j → s.heap.get? c = some o → h'.get? c = some o) → Q (.ref s.heap.objs.size) { s with heap := h' }) :
  wpAny (model prog w) A (Builtin.«zip.__next__» ⟨[.ref z], []⟩) (fun fin s' => ∃ v, fin = .done (.ret v) ∧ Q v s') E s := by
 show wpAny _ _ (field (.ref z) 2 >>= _) _ _ _
 refine wpAny_bind (wpAny_field hz rfl (x := .bool false) rfl ?_)
 show wpAny _ _ (field (.ref z) 3 >>= _) _ _ _
 refine wpAny_bind (wpAny_field hz rfl (x := .ref TI) rfl ?_)
 refine wpAny_bind (wpAny_seqItems hTI rfl ?_)
 show wpAny _ _ (Builtin.SmallTypes.ownedTupleIsFree (.ref z) >>= _) _ _ _
 refine wpAny_bind ?_
 unfold Builtin.SmallTypes.ownedTupleIsFree
 refine wpAny_bind (wpAny_field hz rfl (x := .none) rfl (wpAny_pure ?_))
 simp only [if_true]
 refine wpAny_bind (wpAny_rule ?_)
 refine wpAny_bind (wpAny_field hz rfl (x := .ref TO) rfl ?_)
 refine wpAny_bind (wpAny_setField_rec hz (by simp) fun k1 z1 e1 => ?_)
 replace z1 : IsZip k1 z TI TO .ellipsis := z1
 refine wpAny_bind ?_
 simp only [List.zipIdx_cons, List.zipIdx_nil, List.forIn_cons, List.forIn_nil]
 have u1 : ∀ c o, c ≠ z → s.heap.get? c = some o → k1.get? c = some o := fun c o n => e1.extBut c o n
 refine wpAny_bind (wpAny_bind (wpAny_onRaise ?_))
 show wpAny _ _ (Builtin.SmallTypes.nextOf (.ref i) >>= _) _ _ _
 refine wpAny_bind (N1.run _ _ _ _ (N1.kp _ _ h1 fun b hb o q => u1 b o (fun e => D.b1 (e ▸ hb)) q) fun k2 p2 e2 => wpAny_pure ?_)
 have u2 : ∀ c o, c ≠ i → k1.get? c = some o → k2.get? c = some o := fun c o n => e2.extBut c o n
 have t2 : IsPair k2 TO a b := u2 _ _ D.a8 (u1 _ _ D.a2 hTO)
 refine wpAny_bind (wpAny_seqItems t2 rfl ?_)
 refine wpAny_bind (wpAny_updateSeq_pair t2 fun k3 t3 e3 => ?_)
 replace t3 : IsPair k3 TO x b := t3
 have u3 : ∀ c o, c ≠ TO → k2.get? c = some o → k3.get? c = some o := fun c o n => e3.extBut c o n
 refine wpAny_bind (wpAny_letGo (wpAny_pure ?_))
 refine wpAny_bind (wpAny_bind (wpAny_onRaise ?_))
 show wpAny _ _ (Builtin.SmallTypes.nextOf (.ref j) >>= _) _ _ _
 have r3 : R k3 := N2.kp _ _ h2 fun b hb o q => u3 b o (fun e => D.c2 (e ▸ hb)) (u2 b o (fun e => D.c3 (e ▸ hb)) (u1 b o (fun e => D.c1 (e ▸ hb)) q))
 refine wpAny_bind (N2.run _ _ _ _ r3 fun k4 p4 e4 => wpAny_pure ?_)
 have u4 : ∀ c o, c ≠ j → k3.get? c = some o → k4.get? c = some o := fun c o n => e4.extBut c o n
 have t4 : IsPair k4 TO x b := u4 _ _ D.a9 t3
 refine wpAny_bind (wpAny_seqItems t4 rfl ?_)
 refine wpAny_bind (wpAny_updateSeq_pair t4 fun k5 t5 e5 => ?_)
 replace t5 : IsPair k5 TO x y := t5
 have u5 : ∀ c o, c ≠ TO → k4.get? c = some o → k5.get? c = some o := fun c o n => e5.extBut c o n
 refine wpAny_bind (wpAny_letGo (wpAny_pure (wpAny_pure ?_)))
 refine wpAny_bind (wpAny_seqItems t5 rfl ?_)
 refine wpAny_bind (wpAny_newTuple (hsz := by show 2 ≤ sizeLine; decide) ?_)
 have sz : k5.objs.size = s.heap.objs.size := by rw [e5.1, e4.1, e3.1, e2.1, e1.1]
 have z5 : IsZip k5 z TI TO .ellipsis := u5 _ _ D.a2.symm (u4 _ _ D.a4.symm (u3 _ _ D.a2.symm (u2 _ _ D.a3.symm z1)))
 show wpAny _ _ (Builtin.SmallTypes.ownedTupleHandOut (.ref z) (.ref k5.objs.size) >>= _) _ _ _
 refine wpAny_bind ?_
 unfold Builtin.SmallTypes.ownedTupleHandOut
 have z6 : IsZip (k5.push { cls := .type "tuple", data := .seq #[x, y] }) z TI TO .ellipsis := Heap.get?_push_of_some _ z5
 refine wpAny_bind (wpAny_setField_rec z6 (by simp) fun k7 z7 e7 => ?_)
 replace z7 : IsZip k7 z TI TO (rawInt k5.objs.size) := z7
 refine wpAny_setField_rec z7 (by simp) fun k8 z8 e8 => ?_
 replace z8 : IsZip k8 z TI TO (rawInt k5.objs.size) := z8
 have u8 : ∀ c o, c ≠ z → k5.get? c = some o → k8.get? c = some o := fun c o n q => e8.extBut c o n (e7.extBut c o n (Heap.get?_push_of_some _ q))
 have nz : k5.objs.size ≠ z := Nat.ne_of_gt (Heap.lt_size z5)
 have t8 : IsPair k8 k5.objs.size x y := e8.extBut _ _ nz (e7.extBut _ _ nz (Heap.get?_push_size _ rfl))
 have p8 : P' k8 := N1.kp' _ _ p2 fun b hb o q => u8 b o (fun e => D.b1 (e ▸ hb)) (u5 b o (fun e => D.b2 (e ▸ hb)) (u4 b o (fun e => D.b3 (e ▸ hb)) (u3 b o (fun e => D.b2 (e ▸ hb)) q)))
 have r8 : R' k8 := N2.kp' _ _ p4 fun b hb o q => u8 b o (fun e => D.c1 (e ▸ hb)) (u5 b o (fun e => D.c2 (e ▸ hb)) q)
 refine wpAny_pure ⟨_, rfl, ?_⟩
 show Q (.ref k5.objs.size) _
 rw [sz] at z8 t8 ⊢
 exact hQ k8 z8 (u8 _ _ D.a2 t5) p8 r8 t8 fun c o n1 n2 n3 n4 q => u8 c o n1 (u5 c o n2 (u4 c o n4 (u3 c o n2 (u2 c o n3 (u1 c o n1 q)))))
theorem zipG_end {z TI TO i j : Addr} {f g : List Addr} {a b : Value} {Q : Fin → Shared → Prop} (D : ZA z TI TO i j f g) (P : Heap → Prop) (kp : ∀ h h', P h → (∀ b ∈ f, ∀ o, h.get? b = some o → h'.get? b = some o) → P h')
  (ends : ∀ (s : Shared) (Q : Value → Shared → Prop) (E : Value → Shared → Prop), P s.heap → (∀ h' e, Heap.ExtBut i s.heap h' → (∃ o, h'.get? e = some o ∧ o.cls = .type "StopIteration") → E (.ref e) { s with heap := h' }) → wpAny (model prog w) A (Builtin.SmallTypes.nextOf (.ref i)) Q E s)
  (hz : IsZip s.heap z TI TO .none) (hTI : IsPair s.heap TI (.ref i) (.ref j)) (hTO : IsPair s.heap TO a b) (h1 : P s.heap)
  (hE : ∀ h' e, (∀ c o, c ≠ z → c ≠ TO → c ≠ i → c ≠ j → s.heap.get? c = some o → h'.get? c = some o) → (∃ o, h'.get? e = some o ∧ o.cls = .type "StopIteration") → E (.ref e) { s with heap := h' }) :
  wpAny (model prog w) A (Builtin.«zip.__next__» ⟨[.ref z], []⟩) Q E s := by
 show wpAny _ _ (field (.ref z) 2 >>= _) _ _ _
 refine wpAny_bind (wpAny_field hz rfl (x := .bool false) rfl ?_)
 show wpAny _ _ (field (.ref z) 3 >>= _) _ _ _
 refine wpAny_bind (wpAny_field hz rfl (x := .ref TI) rfl ?_)
 refine wpAny_bind (wpAny_seqItems hTI rfl ?_)
 show wpAny _ _ (Builtin.SmallTypes.ownedTupleIsFree (.ref z) >>= _) _ _ _
 refine wpAny_bind ?_
 unfold Builtin.SmallTypes.ownedTupleIsFree
 refine wpAny_bind (wpAny_field hz rfl (x := .none) rfl (wpAny_pure ?_))
 simp only [if_true]
 refine wpAny_bind (wpAny_rule ?_)
 refine wpAny_bind (wpAny_field hz rfl (x := .ref TO) rfl ?_)
 refine wpAny_bind (wpAny_setField_rec hz (by simp) fun k1 z1 e1 => ?_)
 replace z1 : IsZip k1 z TI TO .ellipsis := z1
 refine wpAny_bind ?_
 simp only [List.zipIdx_cons, List.zipIdx_nil, List.forIn_cons, List.forIn_nil]
 refine wpAny_bind (wpAny_bind (wpAny_onRaise ?_))
 show wpAny _ _ (Builtin.SmallTypes.nextOf (.ref i) >>= _) _ _ _
 refine wpAny_bind (ends _ _ _ (kp _ _ h1 fun b hb o q => e1.extBut b o (fun e => D.b1 (e ▸ hb)) q) fun k2 e x2 he => ?_)
 obtain ⟨oe, hoe, hce⟩ := he
 have z2 : IsZip k2 z TI TO .ellipsis := x2 _ _ D.a3.symm z1
 have ez : e ≠ z := fun q => by subst q; rw [z2] at hoe; cases hoe; simp at hce
 exact wpAny_setField_rec z2 (by simp) fun k3 _ e3 => hE k3 e (fun c o c1 _ c3 _ q => e3.extBut _ _ c1 (x2 _ _ c3 (e1.extBut _ _ c1 q))) ⟨oe, e3.extBut _ _ ez hoe, hce⟩
noncomputable abbrev zT1 (h : Heap) (t : Addr) : Heap := h.push { cls := .type "tuple_iterator", data := .fields #[.ref t, .int 0 0] }
noncomputable abbrev zT2 (h : Heap) (t l : Addr) : Heap := (zT1 h t).push { cls := .type "list_iterator", data := .fields #[.ref l, .int 0 0] }
noncomputable abbrev zT3 (h : Heap) (t l : Addr) : Heap := (zT2 h t l).push { cls := .type "tuple", data := .seq #[.ref h.objs.size, .ref (zT1 h t).objs.size] }
noncomputable abbrev zT4 (h : Heap) (t l : Addr) : Heap := (zT3 h t l).push { cls := .type "tuple", data := .seq #[.none, .none] }
noncomputable abbrev zT5 (h : Heap) (t l : Addr) : Heap := (zT4 h t l).push { cls := .type "zip", data := .fields #[.none, .bool false, .bool false, .ref (zT2 h t l).objs.size, .ref (zT3 h t l).objs.size] }
theorem meets_zipT (t l : Addr) (xs ys : Array Value) : Meets (Builtin.«zip.__new__» ⟨[.type "zip", .ref t, .ref l], []⟩) (fun _ R s => s.heap.IsTuple t xs ∧ s.heap.IsList l ys ∧ R (.ok (.ret (.ref (zT4 s.heap t l).objs.size))) { s with heap := zT5 s.heap t l }) :=
 .of_wp fun prog w A R s h => by
  obtain ⟨hp, g, d, tk, os⟩ := s
  obtain ⟨q1, q2, h⟩ := h
  have hsub := sub_zip
  have e1 : Heap.IsTuple (Shared.heap ⟨hp, g, d, tk, os⟩) t xs := q1
  have e2 : Heap.IsList (Shared.heap ⟨hp.push { cls := .type "tuple_iterator", data := .fields #[.ref t, .int 0 0] }, g, d, tk, os⟩) l ys := Heap.IsList.push q2 _
  wp_walk using wpAny_pyIter_tuple e1, wpAny_pyIter_list e2
  exact ⟨_, rfl, h⟩
theorem call_zipT {t l : Addr} {xs ys : Array Value} {Q : Value → Shared → Prop} (q1 : s.heap.IsTuple t xs) (q2 : s.heap.IsList l ys)
  (h : ∀ h', IsZip h' (s.heap.objs.size + 4) (s.heap.objs.size + 2) (s.heap.objs.size + 3) .none → IsPair h' (s.heap.objs.size + 2) (.ref s.heap.objs.size) (.ref (s.heap.objs.size + 1)) → IsPair h' (s.heap.objs.size + 3) .none .none →
   h'.IsTupleIter s.heap.objs.size t 0 → h'.IsListIter (s.heap.objs.size + 1) l 0 → (∀ c o, s.heap.get? c = some o → h'.get? c = some o) → Q (.ref (s.heap.objs.size + 4)) { s with heap := h' }) : wpAny (model prog w) A (call (.type "zip") [.ref t, .ref l]) Q E s := by
 refine callType_new F.called_zip (by decide) (F.typeCall_zip_2 _ _) (F.newCall_zip_2 _ _) (fun obj => F.args_object_init_3 obj _ _) F.entry_zip_new (meets_zipT t l xs ys) ⟨q1, q2, ?_⟩
 have n1 : (zT1 s.heap t).objs.size = s.heap.objs.size + 1 := Heap.size_push ..
 have n2 : (zT2 s.heap t l).objs.size = s.heap.objs.size + 2 := by rw [Heap.size_push, n1]
 have n3 : (zT3 s.heap t l).objs.size = s.heap.objs.size + 3 := by rw [Heap.size_push, n2]
 have n4 : (zT4 s.heap t l).objs.size = s.heap.objs.size + 4 := by rw [Heap.size_push, n3]
 have up : ∀ {h : Heap} {o o' : Obj} {c : Addr}, h.get? c = some o → (h.push o').get? c = some o := fun q => Heap.get?_push_of_some _ q
 have g5 : (zT5 s.heap t l).get? (zT4 s.heap t l).objs.size = some _ := Heap.get?_push_size _ rfl
 have g4 : (zT5 s.heap t l).get? (zT3 s.heap t l).objs.size = some _ := up (Heap.get?_push_size _ rfl)
 have g3 : (zT5 s.heap t l).get? (zT2 s.heap t l).objs.size = some _ := up (up (Heap.get?_push_size _ rfl))
 have g2 : (zT5 s.heap t l).get? (zT1 s.heap t).objs.size = some _ := up (up (up (Heap.get?_push_size _ rfl)))
 have g1 : (zT5 s.heap t l).get? s.heap.objs.size = some _ := up (up (up (up (Heap.get?_push_size _ rfl))))
 show _ ∧ _
 rw [n2, n3, n4] at g5
 rw [n1, n2] at g3
 rw [n3] at g4
 rw [n1] at g2
 rw [n4]
 exact ⟨⟨_, g5, rfl⟩, h _ g5 g3 g4 ⟨_, g1, rfl, rfl⟩ ⟨_, g2, rfl, rfl⟩ fun c o x => up (up (up (up (up x))))⟩
end
noncomputable def Izt (K : PySem.W.Frag) (a b : Addr) : It :=
 ⟨fun i H => ∃ xs x ys y, SqT K H a xs ∧ xs[i]? = some x ∧ SqL K H b ys ∧ ys[i]? = some y,
  fun i H x H' => ∃ T u v, x = .ref T ∧ H T = none ∧ H' = upd H T (.tup [u, v]) ∧ (∀ xs, SqT K H a xs → xs[i]? = some u) ∧ ∀ ys, SqL K H b ys → ys[i]? = some v,
  fun i H => ∃ xs, SqT K H a xs ∧ xs.length ≤ i⟩
theorem turn_zipT {P : Program} {w : World} {K : PySem.W.Frag} {elts : List Expr} {k : Nat} {pos : Pos} (t l z TI TO i1 i2 : Addr) (D : ZA z TI TO i1 i2 [i1, t] [i2, l]) (ne1 : t ≠ i1) (ne2 : l ≠ i2) :
  Turn P w K (.Tuple elts k pos) (Izt K t l) [z, TI, TO, i1, i2] z (fun i h => IsZip h z TI TO .none ∧ IsPair h TI (.ref i1) (.ref i2) ∧ (∃ a b, IsPair h TO a b) ∧ h.IsTupleIter i1 t i ∧ h.IsListIter i2 l i) where
 mem := by simp
 obj := fun i h st b hb => by
  obtain ⟨hz, hTI, ⟨a, c, hTO⟩, ⟨o1, e1, _, d1⟩, o2, e2, _, d2⟩ := st
  rcases (by simpa using hb : b = z ∨ b = TI ∨ b = TO ∨ b = i1 ∨ b = i2) with rfl | rfl | rfl | rfl | rfl
  ·exact ⟨_, hz, fun v z => by cases z⟩
  ·exact ⟨_, hTI, fun v z => by cases z⟩
  ·exact ⟨_, hTO, fun v z => by cases z⟩
  ·exact ⟨o1, e1, fun v z => by rw [d1] at z; cases z⟩
  ·exact ⟨o2, e2, fun v z => by rw [d2] at z; cases z⟩
 keep := fun i h h' ⟨hz, hTI, ⟨a, c, hTO⟩, h1, h2⟩ k => ⟨k z (by simp) _ hz, k TI (by simp) _ hTI, ⟨a, c, k TO (by simp) _ hTO⟩, h1.at fun o q => k i1 (by simp) o q, h2.at fun o q => k i2 (by simp) o q⟩
 item := by
  intro X hP hw hK hc i pins s σ H E I hf st hg
  subst hP hw hK
  obtain ⟨xs, x, ys, y, hq, hx, hr, hy⟩ := hg
  obtain ⟨its, rv, p, _⟩ := I.tuple hq
  obtain ⟨jts, rw', p', _⟩ := I.list hr
  obtain ⟨u, hu, ru⟩ := rv.get hx
  obtain ⟨v, hv, rv'⟩ := rw'.get hy
  obtain ⟨hz, hTI, ⟨a, c, hTO⟩, h1, h2⟩ := st
  have lt : ∀ b ∈ [z, TI, TO, i1, i2], b < s.heap.objs.size := fun b hb => by
   rcases (by simpa using hb : b = z ∨ b = TI ∨ b = TO ∨ b = i1 ∨ b = i2) with rfl | rfl | rfl | rfl | rfl
   ·exact Heap.lt_size hz
   ·exact Heap.lt_size hTI
   ·exact Heap.lt_size hTO
   ·obtain ⟨o, e, _⟩ := h1; exact Heap.lt_size e
   ·obtain ⟨o, e, _⟩ := h2; exact Heap.lt_size e
  have hTy : s.TypeIs (.ref z) "zip" := ⟨_, hz, rfl⟩
  unfold pyNext
  refine wpAny_bind (wpAny_attempt (wpAny_callSpecial?_slot (name := Str.ofString "__next__") hTy F.slot_zip_next (wpAny_call_entry F.slot_zip_next hTy F.entry_zip_next ?_ (F.args_zip_next_1 _))))
  refine zipG_item (nxt_tup ne1 (x := u) (xs := its.toArray) (by simpa using hu)) (nxt_lst ne2 (x := v) (xs := jts.toArray) (by simpa using hv)) D hz hTI hTO ⟨h1, p⟩ ⟨h2, p'.isList⟩ fun h' a1 a2 a3 a4 a5 hk => wpAny_pure ?_
  obtain ⟨I1, f1⟩ := I.pair (t' := s.toks) (ch := [z, TI, TO, i1, i2]) (x := x) (y := y) hf lt ru rv' a5
   (fun b o hb q => hk b o (fun e => hb (by simp [e])) (fun e => hb (by simp [e])) (fun e => hb (by simp [e])) (fun e => hb (by simp [e])) q)
  refine ⟨_, rfl, wpAny_letOwnedTupleGo_zip a1 fun h3 hz3 sb => ?_⟩
  have I2 := I1.turnedL (h' := h3) (t' := s.toks) (ch := [z, TI, TO, i1, i2]) f1 fun b o hb q => (sb.2 b fun e => hb (by simp [e])).trans q
  exact ⟨.ref s.heap.objs.size, _, I2, rfl, ⟨_, x, y, rfl, I.hok.fresh (Nat.le_refl _), rfl, (fun ys hy => by rw [I.tuple_inj hy hq]; exact hx), fun ys hy' => by rw [I.list_inj hy' hr]; exact hy⟩,
   ⟨hz3, (sb.2 TI D.a1).trans (hk TI _ D.a1 D.a5 D.a6 D.a7 hTI), ⟨_, _, (sb.2 TO D.a2).trans a2⟩, a3.1.at fun o q => (sb.2 i1 D.a3).trans q, a4.1.at fun o q => (sb.2 i2 D.a4).trans q⟩, fun b hb => (f1 b hb).1⟩
 done := by
  intro X hP hw hK hc i pins s σ H E I hf st hg
  subst hP hw hK
  obtain ⟨xs, hq, hl⟩ := hg
  obtain ⟨its, rv, p, _⟩ := I.tuple hq
  obtain ⟨hz, hTI, ⟨a, c, hTO⟩, h1, h2⟩ := st
  have l1' := rv.length
  have hTy : s.TypeIs (.ref z) "zip" := ⟨_, hz, rfl⟩
  unfold pyNext
  refine wpAny_bind (wpAny_attempt (wpAny_callSpecial?_slot (name := Str.ofString "__next__") hTy F.slot_zip_next (wpAny_call_entry F.slot_zip_next hTy F.entry_zip_next ?_ (F.args_zip_next_1 _))))
  refine zipG_end D (fun h => h.IsTupleIter i1 t i ∧ h.IsTuple t its.toArray) (fun h h' ⟨⟨o, e, r⟩, o', e', r'⟩ k => ⟨⟨o, k i1 (by simp) o e, r⟩, o', k t (by simp) o' e', r'⟩)
   (fun s Q E p q => nextT_end (I.ok.hd hc) p.1 p.2 (by simp; omega) q) hz hTI hTO ⟨h1, p⟩ fun h' e hk he => ?_
  obtain ⟨o, ho, hc⟩ := he
  refine wpAny_bind (wpAny_isInstance (T := "StopIteration") (b := true) ⟨o, ho, hc⟩ isSubtype_stop ?_)
  exact wpAny_pure ⟨rfl, I.turnedL (t' := s.toks) (ch := [z, TI, TO, i1, i2]) hf fun b o hb q => hk b o (fun e => hb (by simp [e])) (fun e => hb (by simp [e])) (fun e => hb (by simp [e])) (fun e => hb (by simp [e])) q⟩
 self := fun _ _ _ _ _ st h => wpAny_pyIter_zip st.1 h
noncomputable def iZipT (K : PySem.W.Frag) (ta : TA) : TI := fun σ H R => ta σ H fun vs H1 => ∃ a b xs ys, vs = [.ref a, .ref b] ∧ SqT K H1 a xs ∧ SqL K H1 b ys ∧ R (Izt K a b) H1
theorem pi_zipT {X : Cx} {a b : Expr} {ta : TA} {elts : List Expr} {k : Nat} {p pos pos' : Pos} (hg : Gl X "zip") (hm : X.mg "zip" = none) (ha : PA X [a, b] ta) (hs : starEach [a, b] X.env = [(false, eval a X.env), (false, eval b X.env)] := by rfl) (hs2 : starEach [b] X.env = [(false, eval b X.env)] := by rfl) :
  PI X (.Tuple elts k pos') (.Call (.Name "zip" p) [a, b] [] pos) (iZipT X.K ta) := by
 intro pins s σ H R I h
 refine Call_ (ld_blt I hg hm bt_zip (PyProof.Rows.callWith_type1 (thn (ha pos pins s σ H _ I h) fun us s1 ⟨vs, H1, I1, r1, q1⟩ => ?_) (by rw [hs, hs2]) (by rw [hs2]; rfl)))
 obtain ⟨t, l, xs, ys, rfl, hq, hr, q⟩ := q1
 obtain ⟨u, w', rfl, r, r'⟩ := vals2 r1
 cases r
 cases r'
 obtain ⟨its, rv, p, hz⟩ := I1.tuple hq
 obtain ⟨jts, rw', p', hz'⟩ := I1.list hr
 have lt : t < s1.heap.objs.size := by obtain ⟨o, e, _⟩ := id p; exact Heap.lt_size e
 have ll : l < s1.heap.objs.size := by obtain ⟨o, e, _⟩ := id p'.isList; exact Heap.lt_size e
 refine call_zipT p p'.isList fun h' a1 a2 a3 a4 a5 hk => ?_
 refine wpAny_pyIter_zip a1 ?_
 have ne : ∀ {x : Addr} (i : Nat), x < s1.heap.objs.size → s1.heap.objs.size + i ≠ x := fun i h => Nat.ne_of_gt (Nat.lt_of_lt_of_le h (Nat.le_add_right _ _))
 have D : ZA (s1.heap.objs.size + 4) (s1.heap.objs.size + 2) (s1.heap.objs.size + 3) s1.heap.objs.size (s1.heap.objs.size + 1) [s1.heap.objs.size, t] [s1.heap.objs.size + 1, l] :=
  ⟨ne_add (by decide), ne_add (by decide), ne_add (i := 0) (by decide), ne_add (by decide), ne_add (by decide), ne_add (j := 0) (by decide), ne_add (by decide), ne_add (j := 0) (by decide), ne_add (by decide),
   by simp [ne_add (n := s1.heap.objs.size) (i := 4) (j := 0) (by decide), ne 4 lt], by simp [ne 3 lt], by simp [ne 1 lt],
   by simp [ne 4 ll], by simp [ne 3 ll], by simp [ne 0 ll, Nat.ne_of_gt ll]⟩
 refine ⟨s1.heap.objs.size + 4, [s1.heap.objs.size + 4, s1.heap.objs.size + 2, s1.heap.objs.size + 3, s1.heap.objs.size, s1.heap.objs.size + 1], _, _, H1, rfl, I1.kept (t' := s1.toks) hk,
  turn_zipT t l _ _ _ _ _ D (Nat.ne_of_lt lt) (Nat.ne_of_lt (Nat.lt_succ_of_lt ll)), ⟨a1, a2, ⟨_, _, a3⟩, a4, a5⟩, fun c hc => ?_, q⟩
 have hc' : s1.heap.objs.size ≤ c := by
  rcases (by simpa using hc : c = s1.heap.objs.size + 4 ∨ c = s1.heap.objs.size + 2 ∨ c = s1.heap.objs.size + 3 ∨ c = s1.heap.objs.size ∨ c = s1.heap.objs.size + 1) with rfl | rfl | rfl | rfl | rfl <;> omega
 exact I1.fpOk hc' (I1.hok.fresh hc')
theorem rd_iZipT {K : PySem.W.Frag} {ta : TA} {σ : St} {H : Hp} {R : It → Hp → Prop} (h : ta σ H fun vs H1 => ∃ a b xs ys, vs = [.ref a, .ref b] ∧ SqT K H1 a xs ∧ SqL K H1 b ys ∧ R (Izt K a b) H1) : iZipT K ta σ H R := h
theorem comp_zipT {K : PySem.W.Frag} {a b : Addr} {xs zs : List V} {k : Nat} {ci : List Nat} {g : TG} {tf : TT} {te : TE} {σ : St} {H : Hp} {Z : Addr → List V → Hp → Prop} (Pv : Nat → List V → Hp → Prop) (hlen : xs.length = zs.length) (h0 : Pv 0 [] H) (hl : ∀ i ys H, i ≤ xs.length → Pv i ys H → SqT K H a xs ∧ SqL K H b zs)
  (hs : ∀ i u v ys H T H', xs[i]? = some u → zs[i]? = some v → Pv i ys H → Same H H' → H' T = some (.tup [u, v]) → g (.ref T) (capS k ci σ) H' fun σ2 H2 => tf σ2 H2 fun b H3 => if b = true then te σ2 H3 fun v H4 => ys.length < sizeLine ∧ Pv (i + 1) (ys ++ [v]) H4 else Pv (i + 1) ys H3)
  (hd : ∀ ys H, Pv xs.length ys H → ys.length ≤ sizeLine ∧ ∀ p, H p = none → Z p ys H) :
  ∃ W : Nat → Nat → List V → Hp → Prop, (∃ m, W 0 m [] H) ∧ ∀ i m ys H, W i m ys H →
   ((Izt K a b).stop i H ∧ ys.length ≤ sizeLine ∧ ∀ p, H p = none → Z p ys H) ∨
   ((Izt K a b).go i H ∧ ∃ N : List V → Hp → Prop, (∀ ys' H', N ys' H' → ∃ m', m' < m ∧ W (i + 1) m' ys' H') ∧ ∀ x H', (Izt K a b).yld i H x H' → g x (capS k ci σ) H' fun σ2 H2 => tf σ2 H2 fun b H3 =>
    if b = true then te σ2 H3 fun v H4 => ys.length < sizeLine ∧ N (ys ++ [v]) H4 else N ys H3) := by
 refine ⟨fun i m ys H => m = xs.length - i ∧ i ≤ xs.length ∧ Pv i ys H, ⟨xs.length, by simp, Nat.zero_le _, h0⟩, ?_⟩
 rintro i m ys H ⟨rfl, hi, p⟩
 obtain ⟨q, q'⟩ := hl i ys H hi p
 by_cases hlt : i < xs.length
 ·refine .inr ⟨⟨xs, xs[i], zs, zs[i], q, by simp [hlt], q', by simp⟩, Pv (i + 1), fun ys' H' p' => ⟨xs.length - (i + 1), by omega, rfl, hlt, p'⟩, fun x H' y => ?_⟩
  obtain ⟨T, u, v, rfl, hT, e, y, y'⟩ := y
  exact hs i u v ys H T H' (y xs q) (y' zs q') p (fun b o h => by rw [e, upd_ne (ne_of_none h hT)]; exact h) (by rw [e]; exact upd_same)
 ·have e : i = xs.length := by omega
  subst e
  exact .inl ⟨⟨xs, q, Nat.le_refl _⟩, hd ys H p⟩
end L2
namespace L2
open PySem PySem.Spec PyProof.Rows
section
variable {prog : Program} {w : World} {A : Around} {E : Value → Shared → Prop} {s : Shared}
noncomputable abbrev emS (led : Bool) : Obj := { cls := .type "set", dict := none, data := .set #[] 0 (.fresh 0 0 led) }
set_option maxRecDepth 100000 in
set_option maxHeartbeats 3200000 in
theorem call_setT {l : Addr} {items : Array Value} {xs : List Str} {Q : Value → Shared → Prop} (hh : A.handled = none) (hl : s.heap.IsList l items) (nd : xs.Nodup) (hn : xs.length = items.size) (hx : ∀ (i : Nat) (v : Value), items[i]? = some v → ∃ (x : Str) (t : Tok), xs[i]? = some x ∧ v = .str x t) (hb : items.size + 1 < scanBound)
  (h : ∀ (h' : Heap) (tk : Nat), (∃ S, h'.SetOf (strKind prog w) s.heap.objs.size S items.size) → (∀ b o, s.heap.get? b = some o → h'.get? b = some o) → Q (.ref s.heap.objs.size) { s with heap := h', toks := tk }) :
  wpAny (model prog w) A (call (.type "set") [.ref l]) Q E s := by
 obtain ⟨c, tl, mr⟩ := F.called_set.mro
 have k1 := F.called_set.made
 have k2 := F.called_set.sub
 refine wpAny_call (codeAny_of_tree ?_)
 show wpAny _ _ (callAny (.type "set") _) _ _ _
 refine wpAny_pure ⟨Code.quiet_builtin _ (by decide +kernel), codeAny_builtin F.entry_type_call ?_⟩
 rw [Around.under_plain (weight_type_call_type "set" [.ref l] []) rfl]
 have k3 := F.called_set.notType
 have k4 := F.called_set.canCreate
 have k5 := F.typeCall_set_1 (.ref l)
 repeat (any_goals (first | assumption | wp_step))
 refine codeAny_mono (code_set_new_1 (.ref l) (E := E) (Q₁ := fun obj s₁ => ∃ led : Bool, obj = .ref s.heap.objs.size ∧ s₁ = { s with heap := s.heap.push (emS led) }) fun led => ⟨led, rfl, rfl⟩) fun r s1 hr => ?_
 cases r with
 | error e => exact hr
 | ok fl =>
  cases fl with
  | ret obj =>
   obtain ⟨led, rfl, rfl⟩ := hr
   have hS : (s.heap.push (emS led)).get? s.heap.objs.size = some (emS led) := Heap.get?_push_size _ rfl
   have hT : Shared.TypeIs { s with heap := s.heap.push (emS led) } (.ref s.heap.objs.size) "set" := ⟨_, hS, rfl⟩
   have k6 := F.called_set.init.lookup
   have k7 := F.called_set.init.bind (.ref s.heap.objs.size)
   repeat (any_goals (first | assumption | wp_step))
   refine codeAny_mono (codeAny_call_builtin (R := wants (fun r s₂ => r = .none ∧ ∃ h' tk, s₂ = { s with heap := h', toks := tk } ∧ (∃ S, h'.SetOf (strKind prog w) s.heap.objs.size S items.size) ∧ (∀ b o, s.heap.get? b = some o → h'.get? b = some o)) E) F.called_set.init.plain F.entry_set_init (check_set_init_1 hT ?_)) fun r2 s2 hr2 => ?_
   ·obtain ⟨ol, hol, hcl, nl, hdl⟩ := hl
    obtain ⟨oc, od, odt, osl⟩ := ol
    simp only at hcl hdl
    subst hcl hdl
    have hol' : (s.heap.push (emS led)).get? l = some { cls := .type "list", dict := od, data := .seq items nl, slots := osl } := Heap.get?_push_of_some _ hol
    have j1 := F.sub_list_set
    have j2 := F.sub_list_frozenset
    have j3 : (Value.type "list" == Value.type "dict") = false := by decide
    have hl1 : (s.heap.push (emS led)).IsList l items := ⟨_, hol', rfl, nl, rfl⟩
    unfold Builtin.«set.__init__» noKeywords Builtin.Frozenset.updateFrom
    generalize hPI : pyIter = PI
    wp_walk
    subst hPI
    refine wpAny_pyIter_list hl1 ?_
    refine wpAny_bind (wpAny_runValue ?_)
    have lS : l < s.heap.objs.size := Heap.lt_size hol
    have h3 : A.in1.in1.in1.handled = none := by simp [hh]
    have n1 : l ≠ (s.heap.push (emS led)).objs.size := by rw [Heap.size_push]; exact Nat.ne_of_lt (Nat.lt_succ_of_lt lS)
    have n2 : s.heap.objs.size ∉ [(s.heap.push (emS led)).objs.size, l] := by
     rw [Heap.size_push]
     simp only [List.mem_cons, List.not_mem_nil, or_false, not_or]
     exact ⟨Nat.ne_of_lt (Nat.lt_succ_self _), Nat.ne_of_gt lS⟩
    refine set_texts ((Walks.list h3 _ l n1 items).toS) s.heap.objs.size n2 xs nd hn hx hb (items.size - 0) 0 _ (by omega) (Nat.zero_le _) ⟨⟨_, Heap.get?_push_size _ rfl, rfl, rfl⟩, (hl1.push _)⟩ ?hS0 ?hR
    case hS0 =>
     have hg : ((s.heap.push (emS led)).push { cls := .type "list_iterator", data := .fields #[.ref l, .int 0 0] }).get? s.heap.objs.size = some (emS led) := Heap.get?_push_of_some _ hS
     exact PyProof.Rows.SetOf_congr ((PyProof.Rows.setObjOf_fresh (knd := strKind prog w) led).setOf hg (by unfold scanBound; omega)) (fun y => by simp) rfl
    case hR =>
     intro s' hm hS'
     obtain ⟨h', g', d', tk', os'⟩ := s'
     have eg : g' = s.gens := hm.gens
     have ed : d' = s.drawn := hm.drawn
     have eo : os' = s.os := hm.os
     subst eg ed eo
     show wpAny _ _ _ _ _ _
     refine wpAny_pure ?_
     show wpAny _ _ (ret Value.none) _ _ _
     refine wpAny_pure ⟨rfl, h', tk', rfl, hS', fun b o e => ?_⟩
     have lb := Heap.lt_size e
     have b2 : b ≠ (s.heap.push (emS led)).objs.size := by rw [Heap.size_push]; exact Nat.ne_of_lt (Nat.lt_succ_of_lt lb)
     exact hm.heap b o (by simp only [List.mem_cons, List.not_mem_nil, or_false, not_or]; exact ⟨Nat.ne_of_lt lb, b2⟩) (Heap.get?_push_of_some _ (Heap.get?_push_of_some _ e))
   ·cases r2 with
    | error e => exact hr2
    | ok fl2 =>
     cases fl2 with
     | ret r =>
      obtain ⟨rfl, h', tk, rfl, q1, q2⟩ := hr2
      repeat (any_goals (first | assumption | wp_step))
      exact h _ _ q1 q2
     | _ => exact hr2.elim
  | _ => exact hr.elim
end
section
variable {X : Cx}
noncomputable def tLS (K : PySem.W.Frag) (te : TE) : TE := fun σ H Q => te σ H fun x H1 => ∃ (a : Addr) (xs : List Str), x = .ref a ∧ SqL K H1 a (xs.map V.str) ∧ xs.Nodup ∧ xs.length ≤ 200 ∧ Q (.int xs.length) H1
theorem rd_ls {K : PySem.W.Frag} {te : TE} {σ : St} {H : Hp} {Q : VK} (h : te σ H fun x H1 => ∃ (a : Addr) (xs : List Str), x = .ref a ∧ SqL K H1 a (xs.map V.str) ∧ xs.Nodup ∧ xs.length ≤ 200 ∧ Q (.int xs.length) H1) : tLS K te σ H Q := h
theorem pe_lenset {e : Expr} {te : TE} {p p' pos pos' : Pos} (hc : X.calm = true) (g1 : Gl X "len") (m1 : X.mg "len" = none) (g2 : Gl X "set") (m2 : X.mg "set" = none) (he : PE X e te) (b1 : bootBuiltins "len" = some (.builtin "len") := by decide +kernel)
  (hs0 : starEach [.Call (.Name "set" p') [e] [] pos'] X.env = [(false, eval (.Call (.Name "set" p') [e] [] pos') X.env)] := by rfl) (hs : starEach [e] X.env = [(false, eval e X.env)] := by rfl) :
  PE X (.Call (.Name "len" p) [.Call (.Name "set" p') [e] [] pos'] [] pos) (tLS X.K te) := by
 intro pins s σ H Q I h
 refine wpAny_Call_Name_kw (ld_blt I g1 m1 b1 ?_)
 refine PyProof.Rows.callWith_builtin1 ?_ hs0 rfl
 rw [hs0]
 refine Calls.spliced_cons ?_
 refine Call_ (ld_blt I g2 m2 bt_set (PyProof.Rows.callWith_type1 ?_ hs rfl))
 rw [hs]
 refine Calls.spliced_cons (thn (he pins s σ H _ I h) fun u s1 ⟨x, H1, I1, r1, a, xs, ex, hq, nd, hz, q⟩ => Calls.spliced_nil ?_)
 subst ex
 cases r1
 obtain ⟨its, rv, pl, _⟩ := I1.list hq
 have lx := rv.length
 rw [List.length_map] at lx
 refine call_setT (xs := xs) (I1.ok.hd hc) pl.isList nd (by rw [List.size_toArray]; exact lx) (fun i v hv => ?_) (by rw [List.size_toArray, ← lx]; unfold scanBound; omega) fun h' tk ⟨S, hS⟩ hk => ?_
 ·have hi : i < its.length := by
   have := (Array.getElem?_eq_some_iff.mp hv).1
   simpa using this
  have ex : xs[i]? = some (xs[i]'(by omega)) := List.getElem?_eq_getElem _
  obtain ⟨u, hu, ru⟩ := rv.get (i := i) (x := V.str (xs[i]'(by omega))) (by rw [List.getElem?_map, ex]; rfl)
  obtain ⟨t, rfl⟩ := ru
  have : v = _ := Option.some.inj (hv.symm.trans (show its.toArray[i]? = some _ by simpa using hu))
  exact ⟨_, t, ex, this⟩
 ·refine Calls.spliced_nil ?_
  obtain ⟨o, es, ep, t, ho, hex, hd, _, _, hlt, hf, hsz⟩ := hS
  have hsz : es.size = xs.length := by rw [lx]; exact hsz
  refine call_len_set ho hex hd hf (by rw [hsz]; omega) ?_
  have I2 : Inv X pins σ H1 { s1 with heap := h', toks := tk } := I1.kept hk
  rw [hsz]
  exact ⟨.int xs.length, H1, (I2.tok _).tok _, ⟨_, rfl⟩, q⟩
end
section
variable {prog : Program} {w : World} {A : Around} {E : Value → Shared → Prop} {s : Shared}
theorem en_type (a v : Value) : checkTypeCall "enumerate" ⟨[a], [(Str.ofString "start", v)]⟩ = pure () := by kernel_rfl
theorem en_new (a v : Value) : checkBuiltinCall "enumerate.__new__" ⟨[.type "enumerate", a], [(Str.ofString "start", v)]⟩ = pure () := by kernel_rfl
theorem en_init (a b v : Value) : argsOk "object.__init__" ⟨[a, b], [(Str.ofString "start", v)]⟩ := by
 unfold argsOk; rw [signature?_of (id := "object.__init__") (n := ['_', '_', 't', 'i', 'n', 'i', '_', '_']) (o := ['t', 'c', 'e', 'j', 'b', 'o']) (by kernel_rfl) F.owner_object]; kernel_rfl
set_option maxRecDepth 100000 in
theorem meets_enum1 (l : Addr) (items : Array Value) (n : Nat) (dct : Option Addr) (sl : Array (Option Value)) (t : Tok) :
  Meets (Builtin.«enumerate.__new__» ⟨[.type "enumerate", .ref l], [(Str.ofString "start", .int 1 t)]⟩) (fun _ R s => s.heap.get? l = some { cls := .type "list", dict := dct, data := .seq items n, slots := sl } ∧
   R (.ok (.ret (.ref (s.heap.push { cls := .type "list_iterator", data := .fields #[.ref l, .int 0 0] }).objs.size)))
    { s with heap := (s.heap.push { cls := .type "list_iterator", data := .fields #[.ref l, .int 0 0] }).push { cls := .type "enumerate", data := .fields #[.none, .bool false, .ref s.heap.objs.size, rawInt 1, .none, .none] } }) :=
 .of_wp fun prog w A R s h => by
  obtain ⟨hp, g, d, tk, os⟩ := s
  obtain ⟨hl, h⟩ := h
  have hsub := sub_enumerate
  have hL : Heap.IsList (Shared.heap ⟨hp, g, d, tk, os⟩) l items := ⟨_, hl, rfl, n, rfl⟩
  wp_walk using AutoSeq1.wpAny_loadPart' hl
  refine wpAny_stack_any fun st => wpAny_pure ?_
  split
  ·rename_i c _ _ _ _ _
   cases (c == Value.type "enumerate")
   ·wp_walk using AutoSeq1.wpAny_loadPart' hl, wpAny_pyIter_list hL
    exact ⟨_, rfl, h⟩
   ·wp_walk using AutoSeq1.wpAny_loadPart' hl, wpAny_pyIter_list hL
    exact ⟨_, rfl, h⟩
  ·wp_walk using AutoSeq1.wpAny_loadPart' hl, wpAny_pyIter_list hL
   exact ⟨_, rfl, h⟩
theorem meets_init1 {T newId : String} {self a v : Value} (hl : typeLookup (.type T) "__init__" = pure (some (.builtin "object.__init__"))) (hm : Bind.madeBy (.type T) = pure (some newId)) (hne : (some newId != some "object.__new__") = true) :
  Meets (Builtin.«object.__init__» ⟨[self, a], [(Str.ofString "start", v)]⟩) (fun _ R s => s.TypeIs self T ∧ R (.ok (.ret .none)) s) := by
 refine Meets.of_wp fun prog w A R s hs => ?_
 obtain ⟨hT, hq⟩ := hs
 repeat (any_goals (first | assumption | wp_step))
 exact ⟨_, rfl, hq⟩
set_option maxRecDepth 100000 in
set_option maxHeartbeats 3200000 in
theorem call_enum1 {l : Addr} {items : Array Value} {t : Tok} {Q : Value → Shared → Prop} (hL : s.heap.IsList l items)
  (h : ∀ h', IsEnum h' (s.heap.objs.size + 1) s.heap.objs.size 1 .none → h'.IsListIter s.heap.objs.size l 0 → (∀ b o, s.heap.get? b = some o → h'.get? b = some o) → Q (.ref (s.heap.objs.size + 1)) { s with heap := h' }) :
  wpAny (model prog w) A (call (.type "enumerate") [.ref l] [(Str.ofString "start", .int 1 t)]) Q E s := by
 obtain ⟨⟨c, dct, dt, sl⟩, hl, hc, n, hd⟩ := hL
 replace hc : c = .type "list" := hc
 replace hd : dt = .seq items n := hd
 subst hc hd
 have ft := F.called_enumerate
 obtain ⟨c, tl, mr⟩ := ft.mro
 have k1 := ft.made
 have k2 := ft.sub
 refine wpAny_call (codeAny_of_tree ?_)
 show wpAny _ _ (callAny (.type "enumerate") _) _ _ _
 refine wpAny_pure ⟨Code.quiet_builtin _ (by decide +kernel), codeAny_builtin F.entry_type_call ?_⟩
 rw [Around.under_plain (weight_type_call_type "enumerate" [.ref l] [(Str.ofString "start", .int 1 t)]) (units_type_call_type "enumerate" [.ref l] [(Str.ofString "start", .int 1 t)])]
 have k3 := ft.notType
 have k4 := ft.canCreate
 have k5 := en_type (.ref l) (.int 1 t)
 repeat (any_goals (first | assumption | wp_step))
 refine codeAny_mono (codeAny_call_builtin ft.plain F.entry_enumerate_new (wpAny_of_eq (en_new (.ref l) (.int 1 t)) (meets_enum1 l items n dct sl t prog w A.in1 (wants (fun obj s₁ => obj = .ref (s.heap.objs.size + 1) ∧ ∃ h', s₁ = { s with heap := h' } ∧ IsEnum h' (s.heap.objs.size + 1) s.heap.objs.size 1 .none ∧ h'.IsListIter s.heap.objs.size l 0 ∧ ∀ b o, s.heap.get? b = some o → h'.get? b = some o) E) s ⟨hl, ?_⟩))) fun r s1 hr => ?_
 ·have hz : (s.heap.push { cls := .type "list_iterator", data := .fields #[.ref l, .int 0 0] }).objs.size = s.heap.objs.size + 1 := Heap.size_push ..
  have he := Heap.get?_push_size (s.heap.push { cls := .type "list_iterator", data := .fields #[.ref l, .int 0 0] }) (o := { cls := .type "enumerate", data := .fields #[.none, .bool false, .ref s.heap.objs.size, rawInt 1, .none, .none] }) rfl
  rw [hz] at he
  exact ⟨by rw [hz], _, rfl, he, ⟨_, Heap.get?_push_of_some _ (Heap.get?_push_size _ rfl), rfl, rfl⟩, fun b o x => Heap.get?_push_of_some _ (Heap.get?_push_of_some _ x)⟩
 cases r with
 | error e => exact hr
 | ok fl =>
  cases fl with
  | ret obj =>
   obtain ⟨rfl, h', rfl, he, hi, hk⟩ := hr
   have hT : Shared.TypeIs { s with heap := h' } (.ref (s.heap.objs.size + 1)) "enumerate" := ⟨_, he, rfl⟩
   have k6 := ft.init.lookup
   have k7 := ft.init.bind (.ref (s.heap.objs.size + 1))
   repeat (any_goals (first | assumption | wp_step))
   refine codeAny_mono (codeAny_call_builtin ft.init.plain F.entry_object_init (ft.init.check _ _ _ _ _ _ _ _ hT (en_init _ _ _) (meets_init1 ft.init.lookup ft.made (by decide) prog w A.in1 (wants (fun r s₂ => r = .none ∧ s₂ = { s with heap := h' }) E) _ ⟨hT, rfl, rfl⟩))) fun r2 s2 hr2 => ?_
   cases r2 with
   | error e => exact hr2
   | ok fl2 =>
    cases fl2 with
    | ret r =>
     obtain ⟨rfl, rfl⟩ := hr2
     repeat (any_goals (first | assumption | wp_step))
     exact h h' he hi hk
    | _ => exact hr2.elim
  | _ => exact hr.elim
theorem enumG_item {e it : Addr} {fp : List Addr} {P P' : Heap → Prop} {n : Int} {x old : Value} {Q : Value → Shared → Prop} (N : Nxt prog w it fp P P' x) (ne : e ≠ it) (nf : e ∉ fp) (he : IsEnum s.heap e it n old) (h1 : P s.heap)
  (hQ : ∀ h', IsEnumOut h' e it (n + 1) x s.heap.objs.size → P' h' → h'.get? s.heap.objs.size = some { cls := .type "tuple", data := .seq #[.int n s.toks, x] } → (∀ b o, b ≠ e → b ≠ it → s.heap.get? b = some o → h'.get? b = some o) → Q (.ref s.heap.objs.size) { s with heap := h', toks := s.toks + 1 }) :
  wpAny (model prog w) A (Builtin.«enumerate.__next__» ⟨[.ref e], []⟩) (fun fin s' => ∃ v, fin = .done (.ret v) ∧ Q v s') E s := by
 obtain ⟨hp, g, d, tk, os⟩ := s
 show wpAny _ _ (field (.ref e) 2 >>= _) _ _ _
 refine wpAny_bind (wpAny_field he rfl (x := .ref it) rfl ?_)
 refine wpAny_bind (N.run _ _ _ _ h1 fun a1 p1 s1 => ?_)
 replace s1 : Heap.SameBut it hp a1 := s1
 have e1 : IsEnum a1 e it n old := (s1.2 e ne).trans he
 show wpAny _ _ (field (.ref e) 3 >>= _) _ _ ⟨a1, g, d, tk, os⟩
 refine wpAny_bind (wpAny_field e1 rfl (x := rawInt n) rfl ?_)
 show wpAny _ _ (field (.ref e) 4 >>= _) _ _ ⟨a1, g, d, tk, os⟩
 refine wpAny_bind (wpAny_field e1 rfl (x := .none) rfl ?_)
 show wpAny _ _ (mkInt n >>= _) _ _ ⟨a1, g, d, tk, os⟩
 refine wpAny_bind (wpAny_mkInt ?_)
 show wpAny _ _ (setField (.ref e) 3 (rawInt (n + 1)) >>= _) _ _ ⟨a1, g, d, tk + 1, os⟩
 refine wpAny_bind (wpAny_setField_rec e1 (by simp) fun a2 e2 s2 => ?_)
 replace s2 : Heap.SameBut e a1 a2 := s2
 replace e2 : IsEnum a2 e it (n + 1) old := e2
 show wpAny _ _ (setField (.ref e) 4 .none >>= _) _ _ ⟨a2, g, d, tk + 1, os⟩
 refine wpAny_bind (wpAny_setField_rec e2 (by simp) fun a3 e3 s3 => ?_)
 replace s3 : Heap.SameBut e a2 a3 := s3
 replace e3 : IsEnum a3 e it (n + 1) old := e3
 show wpAny _ _ (newTuple [.int n tk, x] >>= _) _ _ ⟨a3, g, d, tk + 1, os⟩
 refine wpAny_bind (wpAny_newTuple (hsz := by show 2 ≤ sizeLine; decide) ?_)
 have e4 : IsEnum (a3.push { cls := .type "tuple", data := .seq #[.int n tk, x] }) e it (n + 1) old := Heap.get?_push_of_some _ e3
 have sz : a3.objs.size = hp.objs.size := by rw [s3.1, s2.1, s1.1]
 have lt : e < hp.objs.size := Heap.lt_size he
 have t4 : (a3.push { cls := .type "tuple", data := .seq #[.int n tk, x] }).get? hp.objs.size = some { cls := .type "tuple", data := .seq #[.int n tk, x] } := by rw [← sz]; exact Heap.get?_push_size _ rfl
 have k4 : ∀ b o, b ≠ e → a1.get? b = some o → (a3.push { cls := .type "tuple", data := .seq #[.int n tk, x] }).get? b = some o := fun b o hb q => Heap.get?_push_of_some _ (s3.extBut b o hb (s2.extBut b o hb q))
 generalize a3.push { cls := .type "tuple", data := .seq #[.int n tk, x] } = a4 at e4 t4 k4
 show wpAny _ _ (Builtin.SmallTypes.ownedTupleIsFree (.ref e) >>= _) _ _ ⟨a4, g, d, tk + 1, os⟩
 rw [sz]
 refine wpAny_bind ?_
 unfold Builtin.SmallTypes.ownedTupleIsFree
 refine wpAny_bind (wpAny_field e4 rfl (x := .none) rfl (wpAny_pure ?_))
 simp only [if_true]
 refine wpAny_bind (wpAny_rule ?_)
 refine wpAny_bind (wpAny_field e4 rfl (x := old) rfl ?_)
 refine wpAny_bind (wpAny_setField_rec e4 (by simp) fun a5 e5 s5 => ?_)
 replace s5 : Heap.SameBut e a4 a5 := s5
 replace e5 : IsEnum a5 e it (n + 1) x := e5
 show wpAny _ _ (Builtin.SmallTypes.ownedTupleHandOut (.ref e) (.ref hp.objs.size) >>= _) _ _ ⟨a5, g, d, tk + 1, os⟩
 refine wpAny_bind ?_
 unfold Builtin.SmallTypes.ownedTupleHandOut
 refine wpAny_bind (wpAny_setField_rec e5 (by simp) fun a6 e6 s6 => ?_)
 replace s6 : Heap.SameBut e a5 a6 := s6
 replace e6 : IsEnumOut a6 e it (n + 1) x hp.objs.size := e6
 refine wpAny_setField_rec e6 (by simp) fun a7 e7 s7 => ?_
 replace s7 : Heap.SameBut e a6 a7 := s7
 replace e7 : IsEnumOut a7 e it (n + 1) x hp.objs.size := e7
 have up : ∀ b o, b ≠ e → a4.get? b = some o → a7.get? b = some o := fun b o hb q => s7.extBut b o hb (s6.extBut b o hb (s5.extBut b o hb q))
 refine wpAny_bind (wpAny_letGo (wpAny_pure ⟨_, rfl, hQ a7 e7 ?_ (up _ _ (Nat.ne_of_gt lt) t4) fun b o n1 n2 q => up b o n1 (k4 b o n1 (s1.extBut b o n2 q))⟩))
 exact N.kp' _ _ p1 fun b hb o q => up b o (fun z => nf (z ▸ hb)) (k4 b o (fun z => nf (z ▸ hb)) q)
end
noncomputable def Ite1 (K : PySem.W.Frag) (a : Addr) : It :=
 ⟨fun i H => ∃ xs x, SqL K H a xs ∧ xs[i]? = some x, fun i H x H' => ∃ T v, x = .ref T ∧ H T = none ∧ H' = upd H T (.tup [.int (i + 1), v]) ∧ ∀ xs, SqL K H a xs → xs[i]? = some v, fun i H => ∃ xs, SqL K H a xs ∧ xs.length ≤ i⟩
theorem turn_enum1 {P : Program} {w : World} {K : PySem.W.Frag} {elts : List Expr} {k : Nat} {pos : Pos} (a e it : Addr) (hne : e ≠ it) (na : a ≠ e) (ni : a ≠ it) :
  Turn P w K (.Tuple elts k pos) (Ite1 K a) [e, it] e (fun i h => (∃ old, IsEnum h e it ((i : Nat) + 1) old) ∧ h.IsListIter it a i) where
 mem := by simp
 obj := fun i h st b hb => by
  obtain ⟨⟨old, he⟩, o, eo, _, d⟩ := st
  rcases (by simpa using hb : b = e ∨ b = it) with rfl | rfl
  ·exact ⟨_, he, fun v z => by cases z⟩
  ·exact ⟨o, eo, fun v z => by rw [d] at z; cases z⟩
 keep := fun i h h' ⟨⟨old, he⟩, hi⟩ k => ⟨⟨old, k e (by simp) _ he⟩, hi.at fun o q => k it (by simp) o q⟩
 item := by
  intro X hP hw hK hc i pins s σ H E I hf st hg
  subst hP hw hK
  obtain ⟨xs, x, hq, hx⟩ := hg
  obtain ⟨its, rv, p, hz⟩ := I.list hq
  obtain ⟨u, hu, ru⟩ := rv.get hx
  obtain ⟨⟨old, he⟩, hit⟩ := st
  have le : e < s.heap.objs.size := Heap.lt_size he
  have li : it < s.heap.objs.size := by obtain ⟨o, q, _⟩ := id hit; exact Heap.lt_size q
  have hTy : s.TypeIs (.ref e) "enumerate" := ⟨_, he, rfl⟩
  unfold pyNext
  refine wpAny_bind (wpAny_attempt (wpAny_callSpecial?_slot (name := Str.ofString "__next__") hTy F.slot_enumerate_next (wpAny_call_entry F.slot_enumerate_next hTy F.entry_enumerate_next ?_ (F.args_enumerate_next_1 _))))
  refine enumG_item (nxt_lst ni (x := u) (xs := its.toArray) (by simpa using hu)) hne (by simp [hne, na.symm]) he ⟨hit, p.isList⟩ fun h' ho p' hT hk => wpAny_pure ?_
  obtain ⟨I1, f1⟩ := I.pair (t' := s.toks + 1) (ch := [e, it]) (x := .int (i + 1)) (y := x) hf (fun b hb => by rcases (by simpa using hb : b = e ∨ b = it) with rfl | rfl <;> assumption) ⟨s.toks, rfl⟩ ru hT
   (fun b o hb q => hk b o (fun z => hb (by simp [z])) (fun z => hb (by simp [z])) q)
  refine ⟨_, rfl, wpAny_letOwnedTupleGo_enum ho fun h2 he2 sb => ?_⟩
  have I2 := I1.turnedL (h' := h2) (t' := s.toks + 1) (ch := [e, it]) f1 fun b o hb q => (sb.2 b fun z => hb (by simp [z])).trans q
  exact ⟨.ref s.heap.objs.size, _, I2, rfl, ⟨_, x, rfl, I.hok.fresh (Nat.le_refl _), rfl, fun ys hy => by rw [I.list_inj hy hq]; exact hx⟩,
   ⟨⟨u, by simpa using he2⟩, p'.1.at fun o q => (sb.2 it hne.symm).trans q⟩, fun b hb => (f1 b hb).1⟩
 done := by
  intro X hP hw hK hc i pins s σ H E I hf st hg
  subst hP hw hK
  obtain ⟨xs, hq, hx⟩ := hg
  obtain ⟨its, rv, p, hz⟩ := I.list hq
  obtain ⟨⟨old, he⟩, hit⟩ := st
  have hl := rv.length
  have hTy : s.TypeIs (.ref e) "enumerate" := ⟨_, he, rfl⟩
  unfold pyNext
  refine wpAny_bind (wpAny_attempt (wpAny_callSpecial?_slot (name := Str.ofString "__next__") hTy F.slot_enumerate_next (wpAny_call_entry F.slot_enumerate_next hTy F.entry_enumerate_next ?_ (F.args_enumerate_next_1 _))))
  show wpAny _ _ (field (.ref e) 2 >>= _) _ _ _
  refine wpAny_bind (wpAny_field he rfl (x := .ref it) rfl ?_)
  refine wpAny_bind (wpAny_nextOf_list_end (I.ok.hd hc) hit p.isList (by simp; omega) fun h' x eb hx' => ?_)
  obtain ⟨o, ho, hc⟩ := hx'
  refine wpAny_bind (wpAny_isInstance (T := "StopIteration") (b := true) ⟨o, ho, hc⟩ isSubtype_stop ?_)
  exact wpAny_pure ⟨rfl, I.turnedL (t' := s.toks) (ch := [e, it]) hf fun b o hb q => eb b o (fun z => hb (by simp [z])) q⟩
 self := fun _ _ _ _ _ st h => let ⟨_, he⟩ := st.1; wpAny_pyIter_enum he h
noncomputable def iEnum1 (K : PySem.W.Frag) (ta : TA) (tk : TE) : TI := fun σ H R => ta σ H fun vs H1 => tk σ H1 fun y H2 => y = .int 1 ∧ ∃ a xs, vs = [.ref a] ∧ SqL K H2 a xs ∧ R (Ite1 K a) H2
theorem rd_iEnum1 {K : PySem.W.Frag} {ta : TA} {tk : TE} {σ : St} {H : Hp} {R : It → Hp → Prop} (h : ta σ H fun vs H1 => tk σ H1 fun y H2 => y = .int 1 ∧ ∃ a xs, vs = [.ref a] ∧ SqL K H2 a xs ∧ R (Ite1 K a) H2) : iEnum1 K ta tk σ H R := h
theorem callWith_typeK {M : Model} {A : Around} {E : Value → Shared → Prop} {s : Shared} {env : Env} {pos : Pos} {T : String} {e : Expr} {kws : List Keyword} {Q : Value → Shared → Prop}
  (h : wpAny M A (spliced (backTo pos (starEach [e] env))) (fun vs s₁ => wpAny M A (evalAll ((backToKw pos (keywordEach kws env)).map (·.2))) (fun kvs s₂ => wpAny M A (call (.type T) vs (((backToKw pos (keywordEach kws env)).filterMap (·.1)).zip kvs)) Q E s₂) E s₁) E s)
  (he : backTo pos (starEach [e] env) = [(false, eval e env)]) (hall : (backToKw pos (keywordEach kws env)).all (·.1.isSome) = true) (hkw : (backToKw pos (keywordEach kws env)).any (·.1.isNone) = false) :
  wpAny M A (callWith pos (.type T) [] (backTo pos (starEach [e] env)) (backToKw pos (keywordEach kws env))) Q E s := by
 unfold callWith
 have q : wpAny M A (evalArgs (.type T) true (backTo pos (starEach [e] env)) (backToKw pos (keywordEach kws env))) (fun a s₁ => wpAny M A (call (.type T) a.pos a.kw) Q E s₁) E s := by
  rw [he] at h ⊢
  exact evalArgs_kwB hall h
 refine wpAny_bind (wpAny_holding (wpAny_mono q (fun a s1 h1 => wpAny_bind (wpAny_standAt ?_)) fun _ _ x => x))
 simp only [hkw, he, List.any_cons, List.any_nil, Bool.or_false]
 refine wpAny_bind (wpAny_pure ?_)
 exact wpAny_bind (wpAny_mono h1 (fun r s2 hr => wpAny_bind (wpAny_holding (wpAny_point (wpAny_pure hr)))) fun _ _ x => x)
theorem pi_enum1 {X : Cx} {a v : Expr} {ta : TA} {tk : TE} {elts : List Expr} {k : Nat} {p pos pos' kp : Pos} (hg : Gl X "enumerate") (hm : X.mg "enumerate" = none) (ha : PA X [a] ta) (hv : PE X v tk) (hs : starEach [a] X.env = [(false, eval a X.env)] := by rfl)
  (hk : (backToKw pos (keywordEach [⟨some "start", v, kp⟩] X.env)).filterMap (·.1) = [Str.ofString "start"] := by rfl) (hall : (backToKw pos (keywordEach [⟨some "start", v, kp⟩] X.env)).all (·.1.isSome) = true := by rfl) (hkw : (backToKw pos (keywordEach [⟨some "start", v, kp⟩] X.env)).any (·.1.isNone) = false := by rfl) :
  PI X (.Tuple elts k pos') (.Call (.Name "enumerate" p) [a] [⟨some "start", v, kp⟩] pos) (iEnum1 X.K ta tk) := by
 intro pins s σ H R I h
 refine wpAny_Call_Name_kw (ld_blt I hg hm bt_enumerate (callWith_typeK (thn (ha pos pins s σ H _ I h) fun us s1 ⟨vs, H1, I1, r1, q1⟩ => ?_) (by rw [hs]; rfl) hall hkw))
 refine kws_cons (thn (hv pins s1 σ H1 _ I1 q1) fun y s2 ⟨y', H2, I2, r2, ey, b, xs, ev, hq, q⟩ => kws_nil ?_)
 subst ey
 subst ev
 obtain ⟨t, rfl⟩ := r2
 rw [hk]
 obtain ⟨u, rfl, ru⟩ := vals1 r1
 cases ru
 obtain ⟨its, rv, pl, hz⟩ := I2.list hq
 have lb : b < s2.heap.objs.size := by obtain ⟨o, e, _⟩ := id pl.isList; exact Heap.lt_size e
 refine call_enum1 pl.isList fun h' he hit hk => ?_
 refine wpAny_pyIter_enum he ?_
 refine ⟨s2.heap.objs.size + 1, [s2.heap.objs.size + 1, s2.heap.objs.size], _, _, H2, rfl, I2.kept (t' := s2.toks) hk, turn_enum1 b _ _ (Nat.succ_ne_self _) (Nat.ne_of_lt (Nat.lt_succ_of_lt lb)) (Nat.ne_of_lt lb), ⟨⟨_, by simpa using he⟩, hit⟩, fun c hc => ?_, q⟩
 rcases (by simpa using hc : c = s2.heap.objs.size + 1 ∨ c = s2.heap.objs.size) with rfl | rfl
 ·exact I2.fpOk (Nat.le_succ _) (I2.hok.fresh (Nat.le_succ _))
 ·exact I2.fpOk (Nat.le_refl _) (I2.hok.fresh (Nat.le_refl _))
theorem for_enum1 {K : PySem.W.Frag} {a : Addr} {xs : List V} {g : TG} {tb : TS} {D : Ends} {σ : St} {H : Hp} (Pv : Nat → St → Hp → Prop) (h0 : Pv 0 σ H) (hl : ∀ i σ H, i ≤ xs.length → Pv i σ H → SqL K H a xs)
  (hs : ∀ i v σ H T H', xs[i]? = some v → Pv i σ H → Same H H' → H' T = some (.tup [.int (i + 1), v]) → g (.ref T) σ H' fun σ2 H2 => tb { D with nx := Pv (i + 1), ct := Pv (i + 1), bk := D.nx } σ2 H2) (hd : ∀ σ H, Pv xs.length σ H → D.nx σ H) :
  ∃ W : Nat → Nat → St → Hp → Prop, (∃ m, W 0 m σ H) ∧ ∀ i m σ H, W i m σ H →
   ((Ite1 K a).stop i H ∧ D.nx σ H) ∨ ((Ite1 K a).go i H ∧ ∃ N : St → Hp → Prop, (∀ σ' H', N σ' H' → ∃ m', m' < m ∧ W (i + 1) m' σ' H') ∧ ∀ x H', (Ite1 K a).yld i H x H' → g x σ H' fun σ2 H2 => tb { D with nx := N, ct := N, bk := D.nx } σ2 H2) := by
 refine ⟨fun i m σ H => m = xs.length - i ∧ i ≤ xs.length ∧ Pv i σ H, ⟨xs.length, by simp, Nat.zero_le _, h0⟩, ?_⟩
 rintro i m σ H ⟨rfl, hi, p⟩
 have q := hl i σ H hi p
 by_cases hlt : i < xs.length
 ·refine .inr ⟨⟨xs, xs[i], q, by simp [hlt]⟩, Pv (i + 1), fun σ' H' p' => ⟨xs.length - (i + 1), by omega, rfl, hlt, p'⟩, fun x H' y => ?_⟩
  obtain ⟨T, v, rfl, hT, e, y⟩ := y
  exact hs i v σ H T H' (y xs q) p (fun b o h => by rw [e, upd_ne (ne_of_none h hT)]; exact h) (by rw [e]; exact upd_same)
 ·have e : i = xs.length := by omega
  subst e
  exact .inl ⟨⟨xs, q, Nat.le_refl _⟩, hd σ H p⟩
end L2
namespace L2
open PySem PySem.Spec PyProof.Rows
section
variable {σ : St} {H : Hp} {D : Ends} {Q : VK} {ta tb te : TE}
theorem rd_seq {t u : TS} (h : t { D with nx := u D } σ H) : tSeq t u D σ H := h
theorem rd_asg {g : TG} (h : te σ H fun x H1 => g x σ H1 D.nx) : tAsg te g D σ H := h
theorem rd_v0 {v : V} {r : St} (h : Q v H) : tVar 0 (some v :: r) H Q := ⟨v, rfl, h⟩
theorem rd_n0 {a0 : Option V} {v : V} {r : St} {R : St → Hp → Prop} (h : R (some v :: r) H) : gName 0 v (a0 :: r) H R := h
theorem rd_v1 {a0 : Option V} {v : V} {r : St} (h : Q v H) : tVar 1 (a0 :: some v :: r) H Q := ⟨v, rfl, h⟩
theorem rd_n1 {a0 a1 : Option V} {v : V} {r : St} {R : St → Hp → Prop} (h : R (a0 :: some v :: r) H) : gName 1 v (a0 :: a1 :: r) H R := h
theorem rd_v2 {a0 a1 : Option V} {v : V} {r : St} (h : Q v H) : tVar 2 (a0 :: a1 :: some v :: r) H Q := ⟨v, rfl, h⟩
theorem rd_n2 {a0 a1 a2 : Option V} {v : V} {r : St} {R : St → Hp → Prop} (h : R (a0 :: a1 :: some v :: r) H) : gName 2 v (a0 :: a1 :: a2 :: r) H R := h
theorem rd_v3 {a0 a1 a2 : Option V} {v : V} {r : St} (h : Q v H) : tVar 3 (a0 :: a1 :: a2 :: some v :: r) H Q := ⟨v, rfl, h⟩
theorem rd_n3 {a0 a1 a2 a3 : Option V} {v : V} {r : St} {R : St → Hp → Prop} (h : R (a0 :: a1 :: a2 :: some v :: r) H) : gName 3 v (a0 :: a1 :: a2 :: a3 :: r) H R := h
theorem rd_v4 {a0 a1 a2 a3 : Option V} {v : V} {r : St} (h : Q v H) : tVar 4 (a0 :: a1 :: a2 :: a3 :: some v :: r) H Q := ⟨v, rfl, h⟩
theorem rd_n4 {a0 a1 a2 a3 a4 : Option V} {v : V} {r : St} {R : St → Hp → Prop} (h : R (a0 :: a1 :: a2 :: a3 :: some v :: r) H) : gName 4 v (a0 :: a1 :: a2 :: a3 :: a4 :: r) H R := h
theorem rd_v5 {a0 a1 a2 a3 a4 : Option V} {v : V} {r : St} (h : Q v H) : tVar 5 (a0 :: a1 :: a2 :: a3 :: a4 :: some v :: r) H Q := ⟨v, rfl, h⟩
theorem rd_n5 {a0 a1 a2 a3 a4 a5 : Option V} {v : V} {r : St} {R : St → Hp → Prop} (h : R (a0 :: a1 :: a2 :: a3 :: a4 :: some v :: r) H) : gName 5 v (a0 :: a1 :: a2 :: a3 :: a4 :: a5 :: r) H R := h
theorem rd_v6 {a0 a1 a2 a3 a4 a5 : Option V} {v : V} {r : St} (h : Q v H) : tVar 6 (a0 :: a1 :: a2 :: a3 :: a4 :: a5 :: some v :: r) H Q := ⟨v, rfl, h⟩
theorem rd_n6 {a0 a1 a2 a3 a4 a5 a6 : Option V} {v : V} {r : St} {R : St → Hp → Prop} (h : R (a0 :: a1 :: a2 :: a3 :: a4 :: a5 :: some v :: r) H) : gName 6 v (a0 :: a1 :: a2 :: a3 :: a4 :: a5 :: a6 :: r) H R := h
theorem rd_v7 {a0 a1 a2 a3 a4 a5 a6 : Option V} {v : V} {r : St} (h : Q v H) : tVar 7 (a0 :: a1 :: a2 :: a3 :: a4 :: a5 :: a6 :: some v :: r) H Q := ⟨v, rfl, h⟩
theorem rd_n7 {a0 a1 a2 a3 a4 a5 a6 a7 : Option V} {v : V} {r : St} {R : St → Hp → Prop} (h : R (a0 :: a1 :: a2 :: a3 :: a4 :: a5 :: a6 :: some v :: r) H) : gName 7 v (a0 :: a1 :: a2 :: a3 :: a4 :: a5 :: a6 :: a7 :: r) H R := h
theorem rd_v8 {a0 a1 a2 a3 a4 a5 a6 a7 : Option V} {v : V} {r : St} (h : Q v H) : tVar 8 (a0 :: a1 :: a2 :: a3 :: a4 :: a5 :: a6 :: a7 :: some v :: r) H Q := ⟨v, rfl, h⟩
theorem rd_n8 {a0 a1 a2 a3 a4 a5 a6 a7 a8 : Option V} {v : V} {r : St} {R : St → Hp → Prop} (h : R (a0 :: a1 :: a2 :: a3 :: a4 :: a5 :: a6 :: a7 :: some v :: r) H) : gName 8 v (a0 :: a1 :: a2 :: a3 :: a4 :: a5 :: a6 :: a7 :: a8 :: r) H R := h
theorem rd_v9 {a0 a1 a2 a3 a4 a5 a6 a7 a8 : Option V} {v : V} {r : St} (h : Q v H) : tVar 9 (a0 :: a1 :: a2 :: a3 :: a4 :: a5 :: a6 :: a7 :: a8 :: some v :: r) H Q := ⟨v, rfl, h⟩
theorem rd_n9 {a0 a1 a2 a3 a4 a5 a6 a7 a8 a9 : Option V} {v : V} {r : St} {R : St → Hp → Prop} (h : R (a0 :: a1 :: a2 :: a3 :: a4 :: a5 :: a6 :: a7 :: a8 :: some v :: r) H) : gName 9 v (a0 :: a1 :: a2 :: a3 :: a4 :: a5 :: a6 :: a7 :: a8 :: a9 :: r) H R := h
theorem rd_const {v : V} (h : Q v H) : tC v σ H Q := h
theorem rd_op {r : R2} (h : ta σ H fun x H1 => tb σ H1 fun y H2 => r x y H2 Q) : tOp r ta tb σ H Q := h
theorem rd_i0 {g : Int → Int → V} {i j : Int} (h : Q (g i j) H) : rI0 g (.int i) (.int j) H Q := ⟨i, j, rfl, rfl, h⟩
theorem rd_i {C : Int → Int → Prop} {g : Int → Int → V} {i j : Int} (c : C i j) (h : Q (g i j) H) : rI C g (.int i) (.int j) H Q := ⟨i, j, rfl, rfl, c, h⟩
theorem rd_eqI {i j : Int} (h : Q (.bl (decide (i = j))) H) : rEq (.int i) (.int j) H Q := by
 refine ⟨rfl, ?_⟩
 rw [show decide (V.int i = V.int j) = decide (i = j) by simp]
 exact h
theorem rd_neI {i j : Int} (h : Q (.bl (!decide (i = j))) H) : rNe (.int i) (.int j) H Q := by
 refine ⟨rfl, ?_⟩
 rw [show decide (V.int i = V.int j) = decide (i = j) by simp]
 exact h
theorem rd_eqS {i j : Str} (h : Q (.bl (decide (i = j))) H) : rEq (.str i) (.str j) H Q := by
 refine ⟨rfl, ?_⟩
 rw [show decide (V.str i = V.str j) = decide (i = j) by simp]
 exact h
theorem rd_neS {i j : Str} (h : Q (.bl (!decide (i = j))) H) : rNe (.str i) (.str j) H Q := by
 refine ⟨rfl, ?_⟩
 rw [show decide (V.str i = V.str j) = decide (i = j) by simp]
 exact h
theorem rd_if {c : TT} {t u : TS} (h : c σ H fun b H1 => if b = true then t D σ H1 else u D σ H1) : tIfS c t u D σ H := h
theorem rd_test {R : Bool → Hp → Prop} (h : te σ H fun x H' => ∃ k, x = .bl k ∧ R k H') : tTest te σ H R := h
theorem rd_tB {R : Bool → Hp → Prop} (h : te σ H fun x H' => ∃ k, x = .bl k ∧ R k H') : tB te σ H R := h
theorem rd_blP {k : Bool} {R : Bool → Prop} (h : R k) : ∃ k', V.bl k = .bl k' ∧ R k' := ⟨k, rfl, h⟩
theorem rd_not {t : TT} {R : Bool → Hp → Prop} (h : t σ H fun c H1 => R (!c) H1) : tNot t σ H R := h
theorem rd_and {t u : TT} {R : Bool → Hp → Prop} (h : t σ H fun c H1 => if c = true then u σ H1 R else R false H1) : tAnd t u σ H R := h
theorem rd_or {t u : TT} {R : Bool → Hp → Prop} (h : t σ H fun c H1 => if c = true then R true H1 else u σ H1 R) : tOr t u σ H R := h
theorem rd_andV (h : ta σ H fun x H1 => ∃ c, x = .bl c ∧ if c = true then tb σ H1 Q else Q (.bl false) H1) : tAndV ta tb σ H Q := h
theorem rd_notV (h : ta σ H fun x H1 => ∃ c, x = .bl c ∧ Q (.bl (!c)) H1) : tNotV ta σ H Q := h
theorem rd_ifE {t : TT} (h : t σ H fun c H1 => if c = true then ta σ H1 Q else tb σ H1 Q) : tIf t ta tb σ H Q := h
theorem rd_ret (h : te σ H D.rt) : tRet te D σ H := h
theorem rd_retN (h : D.rt .non H) : tRetN D σ H := h
theorem rd_next (h : D.nx σ H) : tNext D σ H := h
theorem rd_drop (h : te σ H fun _ H1 => D.nx σ H1) : tDrop te D σ H := h
theorem rd_cb {r : List V → Hp → VK → Prop} {t : TA} (h : t σ H fun vs H1 => r vs H1 Q) : tCB r t σ H Q := h
theorem rd_call {sp : Sp} {dvs : List V} {E : XK} {t : TA} (h : t σ H fun vs H1 => sp (vs ++ dvs) H1 Q E) : tCall sp dvs E t σ H Q := h
theorem rd_dIn (h : ta σ H fun y H1 => tb σ H1 fun x H2 => ∃ a o, x = .ref a ∧ DGet H2 a y o ∧ Q (.bl o.isSome) H2) : tDIn ta tb σ H Q := h
theorem rd_nil {R : List V → Hp → Prop} (h : R [] H) : tNil σ H R := h
theorem rd_cons {tr : TA} {R : List V → Hp → Prop} (h : ta σ H fun x H1 => tr σ H1 fun xs H2 => R (x :: xs) H2) : tCons ta tr σ H R := h
theorem rd_lst {t : TA} (h : t σ H fun xs H1 => xs.length ≤ sizeLine ∧ ∀ p, H1 p = none → Q (.ref p) (upd H1 p (.lst xs))) : tLst t σ H Q := h
theorem rd_tup {t : TA} (h : t σ H fun xs H1 => xs.length ≤ sizeLine ∧ ∀ p, H1 p = none → Q (.ref p) (upd H1 p (.tup xs))) : tTup t σ H Q := h
theorem rd_chain {r r' : R2} {tc : TE} (h : ta σ H fun x H1 => tb σ H1 fun y H2 => r x y H2 fun z H3 => ∃ k, z = .bl k ∧ (if k = true then tc σ H3 fun w' H4 => r' y w' H4 Q else Q (.bl false) H3)) : tChain r r' ta tb tc σ H Q := h
theorem rd_bm {K : PySem.W.Frag} {T : String} {r : V → List V → Hp → VK → Prop} {t : TA} (h : te σ H fun x H1 => tyV K T x H1 ∧ t σ H1 fun xs H2 => r x xs H2 Q) : tBM K T r te t σ H Q := h
theorem rd_sl {r : V → Option Int → Option Int → Hp → VK → Prop} {tl th : TO} (h : te σ H fun x H1 => tl σ H1 fun l H2 => th σ H2 fun u H3 => r x l u H3 Q) : tSl r te tl th σ H Q := h
theorem rd_nopart {R : Option Int → Hp → Prop} (h : R none H) : tNoPart σ H R := h
theorem rd_part {R : Option Int → Hp → Prop} (h : te σ H fun x H1 => ∃ i, x = .int i ∧ R (some i) H1) : tPart te σ H R := h
theorem rd_int {i : Int} {R : Int → Prop} (h : R i) : ∃ i', V.int i = .int i' ∧ R i' := ⟨i, rfl, h⟩
theorem iteD {p A B : Prop} [Decidable p] (h1 : p → A) (h2 : ¬ p → B) : if decide p = true then A else B := by
 by_cases h : p
 ·rw [if_pos (decide_eq_true h)]; exact h1 h
 ·rw [if_neg (by simpa using h)]; exact h2 h
theorem iteN {p A B : Prop} [Decidable p] (h1 : ¬ p → A) (h2 : p → B) : if (!decide p) = true then A else B := by
 by_cases h : p
 ·rw [if_neg (by simpa using h)]; exact h2 h
 ·rw [if_pos (by simpa using h)]; exact h1 h
theorem rd_rng1 {ta : TA} {R : It → Hp → Prop} (h : ta σ H fun vs H1 => ∃ j : Int, vs = [.int j] ∧ -(2 ^ 62) ≤ j ∧ j < 2 ^ 62 ∧ R (Itr 0 j.toNat) H1) : iRng1 ta σ H R := h
theorem rd_iList {K : PySem.W.Frag} {R : It → Hp → Prop} (h : te σ H fun x H1 => ∃ a, x = .ref a ∧ (∃ xs, SqL K H1 a xs) ∧ R (Itl K a) H1) : iList K te σ H R := h
theorem rd_p18 (h : Q (.int (10 ^ 18)) H) : rI CPow (fun i j => .int (i ^ j.toNat)) (.int 10) (.int 18) H Q := ⟨10, 18, rfl, rfl, ⟨by decide, by decide, by decide⟩, h⟩
theorem rd_p20 (h : Q (.int (10 ^ 20)) H) : rI CPow (fun i j => .int (i ^ j.toNat)) (.int 10) (.int 20) H Q := ⟨10, 20, rfl, rfl, ⟨by decide, by decide, by decide⟩, h⟩
theorem rd_p60 (h : Q (.int (10 ^ 60)) H) : rI CPow (fun i j => .int (i ^ j.toNat)) (.int 10) (.int 60) H Q := ⟨10, 60, rfl, rfl, ⟨by decide, by decide, by decide⟩, h⟩
theorem rd_p64 (h : Q (.int (10 ^ 64)) H) : rI CPow (fun i j => .int (i ^ j.toNat)) (.int 10) (.int 64) H Q := ⟨10, 64, rfl, rfl, ⟨by decide, by decide, by decide⟩, h⟩
theorem rd_for {wi : TI} {g : TG} {tb : TS} (h : wi σ H fun J H1 => ∃ W : Nat → Nat → St → Hp → Prop, (∃ m, W 0 m σ H1) ∧ ∀ i m σ H, W i m σ H →
 (J.stop i H ∧ D.nx σ H) ∨ (J.go i H ∧ ∃ N : St → Hp → Prop, (∀ σ' H', N σ' H' → ∃ m', m' < m ∧ W (i + 1) m' σ' H') ∧ ∀ x H', J.yld i H x H' → g x σ H' fun σ2 H2 => tb { D with nx := N, ct := N, bk := D.nx } σ2 H2)) : tFor wi g tb D σ H := h
theorem rd_comp {wi : TI} {n : Nat} {ci : List Nat} {g : TG} {tf : TT} (h : wi σ H fun J H1 => ∃ W : Nat → Nat → List V → Hp → Prop, (∃ m, W 0 m [] H1) ∧ ∀ i m ys H, W i m ys H →
 (J.stop i H ∧ ys.length ≤ sizeLine ∧ ∀ p, H p = none → Q (.ref p) (upd H p (.lst ys))) ∨
 (J.go i H ∧ ∃ N : List V → Hp → Prop, (∀ ys' H', N ys' H' → ∃ m', m' < m ∧ W (i + 1) m' ys' H') ∧ ∀ x H', J.yld i H x H' → g x (capS n ci σ) H' fun σ2 H2 => tf σ2 H2 fun b H3 =>
  if b = true then te σ2 H3 fun v H4 => ys.length < sizeLine ∧ N (ys ++ [v]) H4 else N ys H3)) : tComp wi n ci g tf te σ H Q := h
theorem rd_yes {R : Bool → Hp → Prop} (h : R true H) : tYes σ H R := h
theorem rd_cap {n : Nat} {ci : List Nat} {g : TG} {x : V} {σ' : St} {R : St → Hp → Prop} (e : capS n ci σ = σ') (h : g x σ' H R) : g x (capS n ci σ) H R := by rw [e]; exact h
theorem rd_start {t : TS} {σ' : St} (e : σ = σ') (h : t D σ' H) : t D σ H := by subst e; exact h
theorem mul_in {x y A B : Int} (h1 : -A ≤ x) (h2 : x ≤ A) (h3 : -B ≤ y) (h4 : y ≤ B) : -(A * B) ≤ x * y ∧ x * y ≤ A * B := by
 have hx : x.natAbs ≤ A.toNat := by omega
 have hy : y.natAbs ≤ B.toNat := by omega
 have h := Nat.mul_le_mul hx hy
 rw [← Int.natAbs_mul] at h
 have e : ((A.toNat * B.toNat : Nat) : Int) = A * B := by
  rw [Int.natCast_mul, Int.toNat_of_nonneg (by omega), Int.toNat_of_nonneg (by omega)]
 have h' : ((x * y).natAbs : Int) ≤ A * B := by rw [← e]; exact Int.ofNat_le.mpr h
 omega
theorem same_of {H H' : Hp} {p : Addr} {o : HO} (h : H p = none) (e : upd H p o = H') : Same H H' := fun b u q => by rw [← e, upd_ne (ne_of_none q h)]; exact q
theorem at_of {H H' : Hp} {p : Addr} {o : HO} (e : upd H p o = H') : H' p = some o := by rw [← e]; exact upd_same
end
end L2
local macro_rules | `(tactic| walk_at "side") => `(tactic| first | with_reducible assumption | exact L2.cdivB (by omega) (by omega) | exact L2.mulOk (by omega) (by omega) (by omega) (by omega) | exact L2.mulOkC (by first | assumption | exact L2.bits_ediv (by assumption) _) (by omega) (by omega) | omega)
local macro_rules | `(tactic| walk_at $s:str) => do
 let ns := match s.getString with | "goA" => "rd_seq rd_asg rd_op rd_const rd_i0 rd_cons rd_nil rd_call rd_ret rd_if rd_test rd_tB rd_blP rd_not rd_next" | "goB" => "rd_and rd_or rd_andV rd_notV rd_ifE rd_retN rd_drop rd_cb rd_lst rd_tup rd_chain rd_bm rd_sl rd_nopart rd_part rd_eqI rd_neI rd_eqS rd_neS rd_iStr rd_str rd_int rd_rng1 rd_iList rd_for rd_comp rd_yes rd_dget rd_prC rd_prN rd_iTup rd_sub rd_iEnum rd_dnew rd_dput rd_bm0 rd_lz rd_step rd_dIn rd_iZipT rd_iEnum1 rd_ls" | "goP" => "rd_p18 rd_p20 rd_p60 rd_p64" | "goV" => "rd_v0 rd_v1 rd_v2 rd_v3 rd_v4 rd_v5 rd_v6 rd_v7 rd_v8 rd_v9" | "goN" => "rd_n0 rd_n1 rd_n2 rd_n3 rd_n4 rd_n5 rd_n6 rd_n7 rd_n8 rd_n9" | _ => ""
 if ns == "" then Lean.Macro.throwUnsupported
 let as ← (ns.splitOn " ").toArray.mapM fun n => `(Lean.Parser.Tactic.tacticSeq| refine $(Lean.mkIdent (Lean.Name.mkStr2 "L2" n)) ?_)
 `(tactic| with_reducible (first $[| $as]*))
local macro_rules | `(tactic| walk_at "go1") => `(tactic| first | walk_at "goA" | walk_at "goV" | walk_at "goB" | walk_at "goN" | walk_at "goP" | (with_reducible refine L2.rd_i ?c ?_; (case c => ((try dsimp only); walk_at "side"))))
local macro_rules | `(tactic| walk_at "go") => `(tactic| repeat walk_at "go1")
namespace Fs
end Fs
namespace Rp
end Rp
namespace Rp
end Rp
namespace Pr
open PySem L2
noncomputable def cell (ns : List Int) (k : Int) : Int := ns.getD k.toNat 0
noncomputable def sp_cell_at (K : PySem.W.Frag) : Sp := fun vs H Q _ => ∃ (a : Addr) (ns : List Int) (k : Int), vs = [.ref a, .int k] ∧ SqL K H a (ns.map V.int) ∧ ns.length ≤ 63 ∧ 0 ≤ k ∧ Q (.int (cell ns k)) H
theorem at_cell {ns : List Int} {k : Int} (h0 : 0 ≤ k) (h : k < (ns.length : Int)) : atI (ns.map V.int) k = some (.int (cell ns k)) := by
 have ek : k = ((k.toNat : Nat) : Int) := by omega
 have hk : k.toNat < ns.length := by omega
 have q : atI (ns.map V.int) ((k.toNat : Nat) : Int) = some (.int ns[k.toNat]) := atI_nat (by rw [List.getElem?_map, List.getElem?_eq_getElem hk] <;> rfl)
 rw [← ek] at q
 rw [q]
 unfold cell
 rw [List.getD_eq_getElem?_getD, List.getElem?_eq_getElem hk]
 rfl
end Pr
namespace Pr
open PySem L2
noncomputable def sp_law (K : PySem.W.Frag) : Sp := fun vs H Q _ => ∃ (a : Addr) (ns : List Int), vs = [.ref a] ∧ SqL K H a (ns.map V.int) ∧ ns.length ≤ 63 ∧ (∀ x ∈ ns, Builtin.Int.intBits x ≤ 1048576) ∧ ∀ H', Q (.bl true) H'
end Pr
namespace Pr
open PySem L2
theorem mem_cut {ns : List Int} {lo hi : Option Int} {x : V} (h : x ∈ cutV (ns.map V.int) lo hi) : ∃ c ∈ ns, x = .int c := by
 have h1 : x ∈ ns.map V.int := List.mem_of_mem_drop (List.mem_of_mem_take h)
 obtain ⟨c, hc, e⟩ := List.mem_map.mp h1
 exact ⟨c, hc, e.symm⟩
end Pr
namespace Pr
open PySem L2
theorem same_new {H : Hp} {p : Addr} (h : H p = none) (o : HO) : Same H (upd H p o) := fun b u q => by rw [upd_ne (ne_of_none q h)]; exact q
end Pr
namespace Pr
open PySem L2
theorem get_cell {ns : List Int} {k : Int} (_h0 : 0 ≤ k) (h : k < (ns.length : Int)) : ns[k.toNat]? = some (cell ns k) := by
 have hk : k.toNat < ns.length := by omega
 unfold cell
 rw [List.getD_eq_getElem?_getD, List.getElem?_eq_getElem hk]
 rfl
theorem cut_take {ns : List Int} {m : Int} (h0 : 0 ≤ m) (h : m ≤ (ns.length : Int)) : cutV (ns.map V.int) none (some m) = (ns.take m.toNat).map V.int := by
 unfold cutV
 rw [List.map_take]
 have e1 : HT.sIx (ns.map V.int).length 0 none = 0 := rfl
 have e2 : HT.sIx (ns.map V.int).length (ns.map V.int).length (some m) = m.toNat := by
  show (if m < 0 then _ else min m.toNat _) = _
  rw [if_neg (by omega), List.length_map]
  omega
 rw [e1, e2]
 simp
end Pr
namespace Pr
open PySem L2
end Pr
namespace Pr
open PySem L2
end Pr
namespace Pr
open PySem L2
end Pr
namespace Ws
open PySem PySem.NumText L2
noncomputable def digs : List Nat := [48, 49, 50, 51, 52, 53, 54, 55, 56, 57]
noncomputable def figs : Str := "0123456789"
noncomputable def lets : Str := "abcdefghijklmnopqrstuvwxyz"
theorem figs_is : figs.cps.toList = digs := by decide +kernel
theorem mem_digs {c : Nat} : c ∈ digs ↔ 48 ≤ c ∧ c ≤ 57 := by
 unfold digs
 simp only [List.mem_cons, List.not_mem_nil, or_false]
 omega
noncomputable def among (x z : Str) : Bool := decide (∀ c ∈ x.cps.toList, c ∈ z.cps.toList)
noncomputable def isW (x : Str) : Bool := decide (1 ≤ x.length ∧ x.length ≤ 8) && among x lets
noncomputable def numV (x : Str) (m : Int) : V := if (1 ≤ x.length ∧ (x.length : Int) ≤ m) ∧ among x figs = true ∧ ¬ (x.cps.toList.head? = some 48 ∧ x.length ≠ 1) then .int (digitsVal x.cps.toList : Nat) else .non
theorem len_is (x : Str) : x.cps.toList.length = x.length := Array.length_toList
theorem among_digits {x : Str} (h : among x figs = true) : AllDigits x.cps.toList := fun c hc => by
 have h' := of_decide_eq_true h c hc
 rw [figs_is] at h'
 exact mem_digs.mp h'
theorem intText {x : Str} (h : among x figs = true) (h1 : 1 ≤ x.length) (h2 : x.length ≤ 200) : intText? x = some ((digitsVal x.cps.toList : Nat) : Int) :=
 intText_digits (among_digits h) (fun e => by have := len_is x; rw [e] at this; simp at this; omega) (by omega)
noncomputable def sp_all_among : Sp := fun vs H Q _ => ∃ x z : Str, vs = [.str x, .str z] ∧ x.length ≤ 200 ∧ ∀ H', Same H H' → Q (.bl (among x z)) H'
noncomputable def sp_is_word : Sp := fun vs H Q _ => ∃ x : Str, vs = [.str x] ∧ x.length ≤ 200 ∧ ∀ H', Same H H' → Q (.bl (isW x)) H'
noncomputable def sp_number_of : Sp := fun vs H Q _ => ∃ (x : Str) (m : Int), vs = [.str x, .int m] ∧ x.length ≤ 200 ∧ ∀ H', Same H H' → Q (numV x m) H'
noncomputable def sp_stream : Sp := fun vs H Q _ => ∃ c m : Int, vs = [.int c, .int m] ∧ 0 ≤ m ∧ m ≤ 100 ∧
 ∀ (p : Addr) (ns : List Int) (H' : Hp), Same H H' → H p = none → H' p = some (.lst (ns.map V.int)) → (ns.length : Int) = m → (∀ n ∈ ns, 0 ≤ n ∧ n < 33554432) → Q (.ref p) H'
theorem same_upd {H H' : Hp} {p : Addr} {o : HO} (h : Same H H') (hp : H p = none) : Same H (upd H' p o) := fun b u q => by
 rw [upd_ne (ne_of_none q hp)]
 exact h b u q
end Ws
namespace Ws
open PySem PySem.NumText L2
theorem numV_no {x : Str} {m : Int} (h : ¬ ((1 ≤ x.length ∧ (x.length : Int) ≤ m) ∧ among x figs = true ∧ ¬ (x.cps.toList.head? = some 48 ∧ x.length ≠ 1))) : numV x m = .non := by unfold numV; rw [if_neg h]
theorem numV_yes {x : Str} {m : Int} (h : (1 ≤ x.length ∧ (x.length : Int) ≤ m) ∧ among x figs = true ∧ ¬ (x.cps.toList.head? = some 48 ∧ x.length ≠ 1)) : numV x m = .int (digitsVal x.cps.toList : Nat) := by unfold numV; rw [if_pos h]
theorem head_at {x : Str} (h : 1 ≤ x.length) : ∃ c r, x.cps.toList = c :: r ∧ atI x.cps.toList 0 = some c := by
 have hl := len_is x
 cases e : x.cps.toList with
 | nil => rw [e] at hl; simp at hl; omega
 | cons c r => exact ⟨c, r, rfl, by unfold atI ixN; simp⟩
theorem sign_eq {c : Nat} : (⟨#[c]⟩ : Str) = "0" ↔ c = 48 := by
 constructor
 ·intro h
  have e : (⟨#[c]⟩ : Str) = ⟨#[48]⟩ := h.trans (by decide +kernel)
  injection e with e
  simpa using e
 ·intro h
  subst h
  decide +kernel
theorem zero_eq {x : Str} (h : x.cps.toList.head? = some 48) : x = "0" ↔ x.length = 1 := by
 have hl := len_is x
 constructor
 ·intro e
  subst e
  decide +kernel
 ·intro e
  have e1 : x.cps.toList = [48] := by
   cases q : x.cps.toList with
   | nil => rw [q] at h; cases h
   | cons c r =>
    rw [q] at h hl
    have : r.length = 0 := by simp at hl; omega
    rw [List.length_eq_zero_iff.mp this]
    have hc : c = 48 := Option.some.inj h
    rw [hc]
  have e2 : x = ⟨#[48]⟩ := by
   cases x with
   | mk a =>
    congr 1
    exact Array.toList_inj.mp e1
  rw [e2]
  decide +kernel
end Ws
namespace Ws
open PySem L2
theorem sum_ones : ∀ (l : List Str), (∀ z ∈ l, z.length = 1) → (l.map (·.length)).sum = l.length
 | [], _ => rfl
 | a :: r, h => by
  rw [List.map_cons, List.sum_cons, sum_ones r fun z hz => h z (List.mem_cons_of_mem _ hz), h a List.mem_cons_self, List.length_cons]
  omega
end Ws
namespace Rm
open PySem PySem.NumText PyProof.Rows L2
noncomputable def sp_window : Sp := fun vs H Q _ => ∃ c m : Int, vs = [.int c, .int m] ∧ 0 ≤ m ∧ m ≤ 100 ∧ ∀ r : Int, Q (.int r) H
noncomputable def sp_number : Sp := fun vs H Q _ => ∃ c m l : Int, vs = [.int c, .int m, .int l] ∧ 0 ≤ m ∧ m < 33554432 ∧ 0 ≤ l ∧ l ≤ 1 ∧ ∀ r : Int, l ≤ r → r ≤ 10 ^ 18 → Q (.int r) H
theorem to19 {P : Int → Prop} (h : ∀ k : Nat, k < 19 → P k) {n : Int} (h0 : 0 ≤ n) (h1 : n < 19) : P n := by
 have e := h n.toNat (by omega)
 rw [Int.toNat_of_nonneg h0] at e
 exact e
theorem mulOk0 {n : Int} (h0 : 0 ≤ n) (h1 : n < 19) : MulOk "0" n := mulOk_of 16 1048576 (by decide +kernel) (by omega) (by omega) (by decide) (by decide)
theorem tens_len {n : Int} (h0 : 0 ≤ n) (h1 : n < 19) : (Str.ofString "1").length + (Txt.mul "0" n).length ≤ sizeLine := by
 refine to19 (P := fun n => (Str.ofString "1").length + (Txt.mul "0" n).length ≤ sizeLine) ?_ h0 h1
 decide +kernel
theorem tens_len2 {n : Int} (h0 : 0 ≤ n) (h1 : n < 19) : (Str.ofString "1" ++ Txt.mul "0" n).length ≤ 640 := by
 refine to19 (P := fun n => (Str.ofString "1" ++ Txt.mul "0" n).length ≤ 640) ?_ h0 h1
 decide +kernel
theorem tens {n : Int} (h0 : 0 ≤ n) (h1 : n < 19) : intText? (Str.ofString "1" ++ Txt.mul "0" n) = some ((10 : Int) ^ n.toNat) := by
 refine to19 (P := fun n => intText? (Str.ofString "1" ++ Txt.mul "0" n) = some ((10 : Int) ^ n.toNat)) ?_ h0 h1
 decide +kernel
end Rm
namespace Rm
open PySem PySem.NumText PyProof.Rows L2
noncomputable def sp_names : Sp := fun vs H Q _ => ∃ c : Int, vs = [.int c, .int 68] ∧ ∀ (p : Addr) (ws : List Str) (H' : Hp), Same H H' → H p = none → H' p = some (.lst (ws.map V.str)) → ws.length = 68 → ws.Nodup → (∀ x ∈ ws, Ws.isW x = true) → Q (.ref p) H'
theorem cutTo {x : Str} {j : Int} (h0 : 0 ≤ j) (h : j ≤ (x.length : Int)) : (Txt.slice x none (some j)).cps.toList = x.cps.toList.take j.toNat := by
 have e : Txt.slice x none (some j) = ⟨((x.cps.toList.drop 0).take (j - 0).toNat).toArray⟩ := StrLaws.sliceText_to ⟨h0, by rw [Ws.len_is]; exact h⟩
 rw [e]
 simp
theorem cutFrom {x : Str} {i : Int} (h0 : 0 ≤ i) (h : i ≤ (x.length : Int)) : (Txt.slice x (some i) none).cps.toList = x.cps.toList.drop i.toNat := by
 have e : Txt.slice x (some i) none = ⟨((x.cps.toList.drop i.toNat).take ((x.cps.toList.length : Int) - i).toNat).toArray⟩ := StrLaws.sliceText_from ⟨h0, by rw [Ws.len_is]; exact h⟩
 rw [e]
 show List.take _ _ = _
 rw [List.take_of_length_le]
 rw [List.length_drop]
 omega
theorem app_list (a y : Str) : (a ++ y).cps.toList = a.cps.toList ++ y.cps.toList := by rw [Str.cps_append, Array.toList_append]
theorem mem_lets {c : Nat} : c ∈ Ws.lets.cps.toList ↔ 97 ≤ c ∧ c ≤ 122 := by
 rw [show Ws.lets.cps.toList = List.range' 97 26 by decide +kernel, List.mem_range'_1]
 omega
theorem let_at {i : Int} (h0 : 0 ≤ i) (h1 : i < 26) : atI (Str.ofString "abcdefghijklmnopqrstuvwxyz").cps.toList i = some (97 + i.toNat) := by
 have h : ∀ k : Nat, k < 26 → atI (Str.ofString "abcdefghijklmnopqrstuvwxyz").cps.toList (k : Int) = some (97 + (k : Int).toNat) := by decide +kernel
 have e := h i.toNat (by omega)
 rw [Int.toNat_of_nonneg h0] at e
 exact e
noncomputable def nmL (way : Int) (b : List Nat) (a k : Nat) : List Nat :=
 if way = 0 then b.take a ++ [97 + k / 26, 97 + k % 26] ++ b.drop a else if way = 1 then [97 + k / 26, 97 + k % 26] ++ b.take (k % (b.length + 1)) else if k < 26 then [97 + k % 26] else [97 + k / 26, 97 + k % 26]
theorem nmL_inj {way : Int} {b : List Nat} {a j k : Nat} (hj : j < 68) (hk : k < 68) (h : nmL way b a j = nmL way b a k) : j = k := by
 unfold nmL at h
 split at h
 ·rw [List.append_assoc, List.append_assoc] at h
  have h' := List.append_cancel_left h
  simp only [List.cons_append, List.cons.injEq] at h'
  omega
 ·split at h
  ·simp only [List.cons_append, List.cons.injEq] at h
   omega
  ·split at h <;> split at h <;> simp only [List.cons.injEq, reduceCtorEq, and_true, and_false, false_and] at h <;> omega
theorem nmL_let {way : Int} {b : List Nat} {a k : Nat} (hb : ∀ c ∈ b, 97 ≤ c ∧ c ≤ 122) (hk : k < 68) {c : Nat} (h : c ∈ nmL way b a k) : 97 ≤ c ∧ c ≤ 122 := by
 unfold nmL at h
 have t1 : ∀ c ∈ [97 + k / 26, 97 + k % 26], 97 ≤ c ∧ c ≤ 122 := fun c hc => by
  simp only [List.mem_cons, List.not_mem_nil, or_false] at hc
  omega
 split at h
 ·rcases List.mem_append.mp h with h | h
  ·rcases List.mem_append.mp h with h | h
   ·exact hb c (List.mem_of_mem_take h)
   ·exact t1 c h
  ·exact hb c (List.mem_of_mem_drop h)
 ·split at h
  ·rcases List.mem_append.mp h with h | h
   ·exact t1 c h
   ·exact hb c (List.mem_of_mem_take h)
  ·split at h
   ·exact t1 c (List.mem_cons_of_mem _ h)
   ·exact t1 c h
theorem nmL_len {way : Int} {b : List Nat} {a k : Nat} (hb : b.length ≤ 6) : 1 ≤ (nmL way b a k).length ∧ (nmL way b a k).length ≤ 8 := by
 unfold nmL
 split
 ·simp only [List.length_append, List.length_take, List.length_drop, List.length_cons, List.length_nil]
  omega
 ·split
  ·simp only [List.length_append, List.length_take, List.length_cons, List.length_nil]
   omega
  ·split <;> simp
theorem isW_of {x : Str} (h1 : 1 ≤ x.cps.toList.length) (h2 : x.cps.toList.length ≤ 8) (h : ∀ c ∈ x.cps.toList, 97 ≤ c ∧ c ≤ 122) : Ws.isW x = true := by
 rw [Ws.len_is] at h1 h2
 unfold Ws.isW Ws.among
 rw [decide_eq_true ⟨h1, h2⟩, Bool.true_and]
 exact decide_eq_true fun c hc => mem_lets.mpr (h c hc)
theorem names_good {way : Int} {b : List Nat} {a : Nat} {ws : List Str} (hb : ∀ c ∈ b, 97 ≤ c ∧ c ≤ 122) (hl : b.length ≤ 6) (hw : ws.length = 68) (h : ∀ j, j < 68 → (ws[j]?).map (·.cps.toList) = some (nmL way b a j)) :
  ws.Nodup ∧ ∀ x ∈ ws, Ws.isW x = true := by
 have h' : ∀ j (hj : j < ws.length), ws[j].cps.toList = nmL way b a j := fun j hj => by
  have e := h j (by omega)
  rw [List.getElem?_eq_getElem hj] at e
  exact Option.some.inj e
 constructor
 ·refine List.pairwise_iff_getElem.mpr fun i j hi hj hij e => ?_
  have e1 := h' i hi
  rw [e, h' j hj] at e1
  have := nmL_inj (by omega) (by omega) e1
  omega
 ·intro x hx
  obtain ⟨j, hj, rfl⟩ := List.mem_iff_getElem.mp hx
  have e := h' j hj
  refine isW_of ?_ ?_ ?_ <;> rw [e]
  ·exact (nmL_len hl).1
  ·exact (nmL_len hl).2
  ·exact fun c hc => nmL_let hb (by omega) hc
end Rm
namespace Rm
open PySem PySem.NumText PyProof.Rows L2
theorem join_list : ∀ (zs : List Str), (Txt.join (Str.ofString "") zs).cps.toList = (zs.map (·.cps.toList)).flatten := by
 intro zs
 show (Builtin.Str.glued (Str.ofString "") zs).cps.toList = _
 rw [StrLaws.glued_eq_join]
 induction zs with
 | nil => rfl
 | cons a r ih =>
  cases r with
  | nil => show a.cps.toList = a.cps.toList ++ []; rw [List.append_nil]
  | cons b r =>
   show (a ++ Str.ofString "" ++ Str.join (Str.ofString "") (b :: r)).cps.toList = _
   rw [app_list, app_list, ih, show (Str.ofString "").cps.toList = [] by decide +kernel, List.append_nil]
   rfl
theorem base_good {zs : List Str} (h : ∀ z ∈ zs, ∃ c, z = ⟨#[c]⟩ ∧ 97 ≤ c ∧ c ≤ 122) : (Txt.join (Str.ofString "") zs).length = zs.length ∧ ∀ c ∈ (Txt.join (Str.ofString "") zs).cps.toList, 97 ≤ c ∧ c ≤ 122 := by
 refine ⟨PySem.W.KT.join_ones zs fun z hz => by obtain ⟨c, rfl, _⟩ := h z hz; rfl, fun c hc => ?_⟩
 rw [join_list] at hc
 obtain ⟨l, hl, hc⟩ := List.mem_flatten.mp hc
 obtain ⟨z, hz, rfl⟩ := List.mem_map.mp hl
 obtain ⟨d, rfl, h1, h2⟩ := h z hz
 have e : c = d := by simpa using hc
 omega
end Rm
namespace Rm
open PySem PySem.NumText PyProof.Rows L2
theorem nm_snoc {way : Int} {b : List Nat} {a i : Nat} {ws : List Str} {x : Str} (hw : ws.length = i) (h : ∀ j, j < i → (ws[j]?).map (·.cps.toList) = some (nmL way b a j)) (hx : x.cps.toList = nmL way b a i) :
  ∀ j, j < i + 1 → ((ws ++ [x])[j]?).map (·.cps.toList) = some (nmL way b a j) := fun j hj => by
 by_cases e : j < i
 ·rw [List.getElem?_append_left (by omega)]
  exact h j e
 ·have e2 : j = i := by omega
  subst e2
  rw [List.getElem?_append_right (by omega), hw, Nat.sub_self]
  exact congrArg some hx
end Rm
namespace Rm
open PySem L2
theorem none_of {H H' : Hp} {p : Addr} (s : Same H H') (h : H' p = none) : H p = none := by
 cases e : H p with
 | none => rfl
 | some u => rw [s _ _ e] at h; cases h
end Rm
namespace Rm
open PySem L2
inductive Fm where
 | hold (n : Int) | ring (x : Str) (n : Int) | rise (x : Str) (h n : Int) | row (ps : List Str) | side (ps : List Str) | again (k : Int) (x : Str)
structure Rr where
 names : List Str
 limbs : List (Str × Int)
 parts : List (Str × Fm)
 hands : List (List Int)
 longs : List Int
noncomputable def Rr.add (m : Rr) (f : Fm) (ks : List Int) (g : Int) : Rr := { m with parts := m.parts ++ [(m.names.getD m.parts.length ⟨#[]⟩, f)], hands := m.hands ++ [ks], longs := m.longs ++ [g] }
noncomputable def FormAt (H : Hp) (a : Addr) : Fm → Prop
 | .hold n => H a = some (.tup [.str "hold", .int n])
 | .ring x n => H a = some (.tup [.str "ring", .str x, .int n])
 | .rise x h n => H a = some (.tup [.str "raise", .str x, .int h, .int n])
 | .row ps => ∃ b, H a = some (.tup [.str "row", .ref b]) ∧ H b = some (.tup (ps.map V.str))
 | .side ps => ∃ b, H a = some (.tup [.str "side", .ref b]) ∧ H b = some (.tup (ps.map V.str))
 | .again k x => H a = some (.tup [.str "again", .int k, .str x])
noncomputable def PartAt (H : Hp) (a : Addr) (p : Str × Fm) : Prop := ∃ b, H a = some (.tup [.str p.1, .ref b]) ∧ FormAt H b p.2
noncomputable def LimbAt (H : Hp) (a : Addr) (p : Str × Int) : Prop := H a = some (.tup [.str p.1, .int p.2])
noncomputable def All2 {α : Type} (R : Addr → α → Prop) (as : List Addr) (xs : List α) : Prop := as.length = xs.length ∧ ∀ (i : Nat) (a : Addr) (x : α), as[i]? = some a → xs[i]? = some x → R a x
theorem All2.nil {α : Type} {R : Addr → α → Prop} : All2 R [] [] := ⟨rfl, fun i a x h => by simp at h⟩
theorem All2.mono {α : Type} {R S : Addr → α → Prop} {as : List Addr} {xs : List α} (h : All2 R as xs) (k : ∀ a x, R a x → S a x) : All2 S as xs := ⟨h.1, fun i a x h1 h2 => k a x (h.2 i a x h1 h2)⟩
theorem All2.snoc {α : Type} {R : Addr → α → Prop} {as : List Addr} {xs : List α} {a : Addr} {x : α} (h : All2 R as xs) (hx : R a x) : All2 R (as ++ [a]) (xs ++ [x]) := by
 have hl := h.1
 refine ⟨by simp [hl], fun i b y h1 h2 => ?_⟩
 by_cases hi : i < as.length
 ·rw [List.getElem?_append_left hi] at h1
  rw [List.getElem?_append_left (by omega)] at h2
  exact h.2 i b y h1 h2
 ·rw [List.getElem?_append_right (by omega)] at h1
  rw [List.getElem?_append_right (by omega)] at h2
  have e : i - as.length = 0 := by
   have := (List.getElem?_eq_some_iff.mp h1).1
   simp at this
   omega
  rw [e] at h1
  rw [show i - xs.length = 0 by omega] at h2
  simp at h1 h2
  subst h1 h2
  exact hx
theorem All2.get {α : Type} {R : Addr → α → Prop} {as : List Addr} {xs : List α} {i : Nat} {x : α} (h : All2 R as xs) (hx : xs[i]? = some x) : ∃ a, as[i]? = some a ∧ R a x := by
 have hi := (List.getElem?_eq_some_iff.mp hx).1
 have hl := h.1
 have ha : as[i]? = some as[i] := List.getElem?_eq_getElem (by omega)
 exact ⟨_, ha, h.2 i _ _ ha hx⟩
structure Ra where
 r : Addr
 pn : Addr
 pl : Addr
 pp : Addr
 ph : Addr
 pg : Addr
noncomputable def Ra.off (z : Ra) (a : Addr) : Prop := a ≠ z.pp ∧ a ≠ z.ph ∧ a ≠ z.pg
noncomputable def HandAt (z : Ra) (H : Hp) (a : Addr) (ks : List Int) : Prop := H a = some (.lst (ks.map V.int)) ∧ z.off a
structure RoomAt (H : Hp) (z : Ra) (m : Rr) : Prop where
 d : H z.r = some (.dK [(Sum.inr "names", .ref z.pn), (Sum.inr "limbs", .ref z.pl), (Sum.inr "parts", .ref z.pp), (Sum.inr "hands", .ref z.ph), (Sum.inr "long", .ref z.pg)])
 n : H z.pn = some (.lst (m.names.map V.str))
 l : ∃ ls, H z.pl = some (.lst (ls.map V.ref)) ∧ All2 (LimbAt H) ls m.limbs
 p : ∃ qs, H z.pp = some (.lst (qs.map V.ref)) ∧ All2 (PartAt H) qs m.parts
 h : ∃ hs, H z.ph = some (.lst (hs.map V.ref)) ∧ All2 (HandAt z H) hs m.hands
 g : H z.pg = some (.lst (m.longs.map V.int))
 on : z.off z.pn
 ol : z.off z.pl
 ph : z.pp ≠ z.ph
 pg : z.pp ≠ z.pg
 hg : z.ph ≠ z.pg
noncomputable def Kp (z : Ra) (H H' : Hp) : Prop := ∀ b u, z.off b → H b = some u → H' b = some u
theorem Kp.refl (z : Ra) (H : Hp) : Kp z H H := fun _ _ _ h => h
theorem Kp.trans {z : Ra} {H H1 H2 : Hp} (a : Kp z H H1) (b : Kp z H1 H2) : Kp z H H2 := fun c u o h => b c u o (a c u o h)
theorem Kp.of {z : Ra} {H H' : Hp} (s : Same H H') : Kp z H H' := fun b u _ h => s b u h
section
variable {H H' : Hp} {z : Ra} {m : Rr}
theorem off_tup (R : RoomAt H z m) {a : Addr} {xs : List V} (h : H a = some (.tup xs)) : z.off a := by
 obtain ⟨qs, e1, _⟩ := R.p
 obtain ⟨hs, e2, _⟩ := R.h
 exact ⟨ne_of h e1 (fun z => by cases z), ne_of h e2 (fun z => by cases z), ne_of h R.g (fun z => by cases z)⟩
theorem off_dict (R : RoomAt H z m) : z.off z.r := by
 obtain ⟨qs, e1, _⟩ := R.p
 obtain ⟨hs, e2, _⟩ := R.h
 exact ⟨ne_of R.d e1 (fun z => by cases z), ne_of R.d e2 (fun z => by cases z), ne_of R.d R.g (fun z => by cases z)⟩
theorem off_new (R : RoomAt H z m) {a : Addr} (h : H a = none) : z.off a := by
 obtain ⟨qs, e1, _⟩ := R.p
 obtain ⟨hs, e2, _⟩ := R.h
 refine ⟨fun e => ?_, fun e => ?_, fun e => ?_⟩
 ·rw [e, e1] at h; cases h
 ·rw [e, e2] at h; cases h
 ·rw [e, R.g] at h; cases h
theorem FormAt.kp {a : Addr} {f : Fm} (R : RoomAt H z m) (k : Kp z H H') (h : FormAt H a f) : FormAt H' a f := by
 cases f with
 | row ps => obtain ⟨b, h1, h2⟩ := h; exact ⟨b, k _ _ (off_tup R h1) h1, k _ _ (off_tup R h2) h2⟩
 | side ps => obtain ⟨b, h1, h2⟩ := h; exact ⟨b, k _ _ (off_tup R h1) h1, k _ _ (off_tup R h2) h2⟩
 | hold n => exact k _ _ (off_tup R h) h
 | ring x n => exact k _ _ (off_tup R h) h
 | rise x g n => exact k _ _ (off_tup R h) h
 | again x n => exact k _ _ (off_tup R h) h
theorem PartAt.kp {a : Addr} {p : Str × Fm} (R : RoomAt H z m) (k : Kp z H H') (h : PartAt H a p) : PartAt H' a p := by
 obtain ⟨b, h1, h2⟩ := h
 exact ⟨b, k _ _ (off_tup R h1) h1, FormAt.kp R k h2⟩
theorem RoomAt.keeps (R : RoomAt H z m) (s : Same H H') : RoomAt H' z m := by
 have k : Kp z H H' := Kp.of s
 obtain ⟨ls, e1, a1⟩ := R.l
 obtain ⟨qs, e2, a2⟩ := R.p
 obtain ⟨hs, e3, a3⟩ := R.h
 exact ⟨s _ _ R.d, s _ _ R.n, ⟨ls, s _ _ e1, a1.mono fun a x h => s _ _ h⟩, ⟨qs, s _ _ e2, a2.mono fun a x h => PartAt.kp R k h⟩, ⟨hs, s _ _ e3, a3.mono fun a x h => ⟨s _ _ h.1, h.2⟩⟩, s _ _ R.g, R.on, R.ol, R.ph, R.pg, R.hg⟩
theorem get_names (R : RoomAt H z m) : DGet H z.r (.str "names") (some (.ref z.pn)) := DGet.k (k := Sum.inr "names") R.d
theorem get_limbs (R : RoomAt H z m) : DGet H z.r (.str "limbs") (some (.ref z.pl)) := DGet.k (k := Sum.inr "limbs") R.d
theorem get_parts (R : RoomAt H z m) : DGet H z.r (.str "parts") (some (.ref z.pp)) := DGet.k (k := Sum.inr "parts") R.d
theorem get_hands (R : RoomAt H z m) : DGet H z.r (.str "hands") (some (.ref z.ph)) := DGet.k (k := Sum.inr "hands") R.d
theorem get_long (R : RoomAt H z m) : DGet H z.r (.str "long") (some (.ref z.pg)) := DGet.k (k := Sum.inr "long") R.d
end
noncomputable def sp_add : Sp := fun vs H Q _ => ∃ (z : Ra) (m : Rr) (fa ha : Addr) (f : Fm) (ks : List Int) (g : Int), vs = [.ref z.r, .ref fa, .ref ha, .int g] ∧ RoomAt H z m ∧ FormAt H fa f ∧ HandAt z H ha ks ∧
 m.parts.length < 68 ∧ m.hands.length < 68 ∧ m.longs.length < 68 ∧ m.names.length = 68 ∧ ∀ H', Kp z H H' → RoomAt H' z (m.add f ks g) → Q .non H'
end Rm
namespace Rm
open PySem L2
theorem at_name {ws : List Str} {n : Nat} (h : n < ws.length) : atI (ws.map V.str) (n : Int) = some (.str (ws.getD n ⟨#[]⟩)) := by
 refine atI_nat ?_
 rw [List.getElem?_map, List.getD_eq_getElem?_getD, List.getElem?_eq_getElem h]
 rfl
theorem add_room {H H' : Hp} {z : Ra} {m : Rr} {f : Fm} {ks : List Int} {g : Int} {p ha : Addr} {qs hs : List Addr} (R : RoomAt H z m) (k : Kp z H H')
  (eq : H z.pp = some (.lst (qs.map V.ref))) (aq : All2 (PartAt H) qs m.parts) (eh : H z.ph = some (.lst (hs.map V.ref))) (ah : All2 (HandAt z H) hs m.hands)
  (hp : PartAt H p (m.names.getD m.parts.length ⟨#[]⟩, f)) (hh : HandAt z H ha ks)
  (e1 : H' z.pp = some (.lst (qs.map V.ref ++ [.ref p]))) (e2 : H' z.ph = some (.lst (hs.map V.ref ++ [.ref ha]))) (e3 : H' z.pg = some (.lst (m.longs.map V.int ++ [.int g]))) : RoomAt H' z (m.add f ks g) := by
 obtain ⟨ls, e0, a0⟩ := R.l
 refine ⟨k _ _ (off_dict R) R.d, k _ _ R.on R.n, ⟨ls, k _ _ R.ol e0, a0.mono fun a x h => k _ _ (off_tup R h) h⟩, ⟨qs ++ [p], ?_, ?_⟩, ⟨hs ++ [ha], ?_, ?_⟩, ?_, R.on, R.ol, R.ph, R.pg, R.hg⟩
 ·rw [e1, List.map_append]; rfl
 ·exact (aq.mono fun a x h => PartAt.kp R k h).snoc (PartAt.kp R k hp)
 ·rw [e2, List.map_append]; rfl
 ·exact (ah.mono fun a x h => ⟨k _ _ h.2 h.1, h.2⟩).snoc ⟨k _ _ hh.2 hh.1, hh.2⟩
 ·rw [e3]; show _ = some (HO.lst ((m.longs ++ [g]).map V.int)); rw [List.map_append]; rfl
end Rm
namespace Rm
open PySem L2
noncomputable def Rr.nm (m : Rr) (j : Nat) : Str := m.names.getD j ⟨#[]⟩
noncomputable def Rr.hd (m : Rr) (j : Nat) : List Int := m.hands.getD j []
noncomputable def Rr.lg (m : Rr) (j : Nat) : Int := m.longs.getD j 0
noncomputable def Idx (m : Rr) (i : Nat) (is : List Nat) (ps : List Str) : Prop := ps = is.map m.nm ∧ ∀ j ∈ is, j < i
noncomputable def KsOf (m : Rr) (is : List Nat) (ks : List Int) : Prop := ∀ k, k ∈ ks ↔ ∃ j ∈ is, k ∈ m.hd j
noncomputable def Apart (m : Rr) (is : List Nat) : Prop := (∀ j ∈ is, m.hd j ≠ []) ∧ is.Pairwise fun a b => ∀ k ∈ m.hd a, ¬ k ∈ m.hd b
noncomputable def FmOk (m : Rr) (i : Nat) : Fm → List Int → Int → Prop
 | .hold n, ks, g => 1 ≤ n ∧ n ≤ 10 ^ 18 ∧ ks = [] ∧ g = n
 | .ring x n, ks, g => x ∈ m.names ∧ 1 ≤ n ∧ n ≤ 10 ^ 18 ∧ ks = [] ∧ g = n
 | .rise x h n, ks, g => (∃ (j : Nat) (v : Int), m.limbs[j]? = some (x, v) ∧ ks = [(j : Int)]) ∧ 0 ≤ h ∧ h ≤ 10 ^ 18 ∧ 1 ≤ n ∧ n ≤ 10 ^ 18 ∧ g = n
 | .row ps, ks, g => ∃ is, Idx m i is ps ∧ 1 ≤ is.length ∧ is.length ≤ 8 ∧ KsOf m is ks ∧ g = (is.map m.lg).sum
 | .side ps, ks, g => ∃ is, Idx m i is ps ∧ 2 ≤ is.length ∧ is.length ≤ 4 ∧ Apart m is ∧ KsOf m is ks ∧ (∃ j ∈ is, g = m.lg j) ∧ ∀ j ∈ is, m.lg j ≤ g
 | .again k x, ks, g => 1 ≤ k ∧ k ≤ 10 ^ 18 ∧ ∃ j, j < i ∧ x = m.nm j ∧ ks = m.hd j ∧ g = k * m.lg j
structure PartOk (m : Rr) (i : Nat) (f : Fm) (ks : List Int) (g : Int) : Prop where
 f : FmOk m i f ks g
 k : ∀ k ∈ ks, 0 ≤ k ∧ k < (m.limbs.length : Int)
 o : ks.Pairwise (· < ·)
 g1 : 1 ≤ g
 g2 : g ≤ 10 ^ 60
structure Good (m : Rr) : Prop where
 nl : m.names.length = 68
 nd : m.names.Nodup
 nw : ∀ x ∈ m.names, Ws.isW x = true
 l1 : 1 ≤ m.limbs.length
 l8 : m.limbs.length ≤ 8
 ln : (m.limbs.map (·.1)).Nodup
 lm : ∀ p ∈ m.limbs, p.1 ∈ m.names ∧ 0 ≤ p.2 ∧ p.2 ≤ 10 ^ 18
 hl : m.hands.length = m.parts.length
 gl : m.longs.length = m.parts.length
 ps : ∀ i p, m.parts[i]? = some p → p.1 = m.nm i ∧ PartOk m i p.2 (m.hd i) (m.lg i)
section
variable {m : Rr} {f : Fm} {ks : List Int} {g : Int}
theorem getD_snoc {α : Type} {l : List α} {x d : α} {j : Nat} (h : j < l.length) : (l ++ [x]).getD j d = l.getD j d := by
 rw [List.getD_eq_getElem?_getD, List.getD_eq_getElem?_getD, List.getElem?_append_left h]
theorem getD_last {α : Type} {l : List α} {x d : α} : (l ++ [x]).getD l.length d = x := by
 rw [List.getD_eq_getElem?_getD, List.getElem?_append_right (Nat.le_refl _), Nat.sub_self]
 rfl
theorem add_hd {j : Nat} (h : j < m.hands.length) : (m.add f ks g).hd j = m.hd j := getD_snoc h
theorem add_lg {j : Nat} (h : j < m.longs.length) : (m.add f ks g).lg j = m.lg j := getD_snoc h
theorem FmOk.add {f' : Fm} {ks' : List Int} {g' : Int} {i : Nat} (h1 : i ≤ m.hands.length) (h2 : i ≤ m.longs.length) (h : FmOk m i f' ks' g') : FmOk (m.add f ks g) i f' ks' g' := by
 have eh : ∀ is : List Nat, (∀ j ∈ is, j < i) → KsOf m is ks' → KsOf (m.add f ks g) is ks' := fun is hi h k => by
  rw [h k]
  constructor
  ·rintro ⟨j, hj, hk⟩
   exact ⟨j, hj, by rw [add_hd (by have := hi j hj; omega)]; exact hk⟩
  ·rintro ⟨j, hj, hk⟩
   exact ⟨j, hj, by rw [add_hd (by have := hi j hj; omega)] at hk; exact hk⟩
 cases f' with
 | hold n => exact h
 | ring x n => exact h
 | rise x v n => exact h
 | row ps =>
  obtain ⟨is, a, b, c, d, e⟩ := h
  refine ⟨is, a, b, c, eh is a.2 d, e.trans ?_⟩
  congr 1
  exact List.map_congr_left fun j hj => (add_lg (by have := a.2 j hj; omega)).symm
 | side ps =>
  obtain ⟨is, a, b, c, p, d, e1, e2⟩ := h
  refine ⟨is, a, b, c, ⟨fun j hj => ?_, ?_⟩, eh is a.2 d, ?_, fun j hj => ?_⟩
  ·rw [add_hd (by have := a.2 j hj; omega)]; exact p.1 j hj
  ·refine List.Pairwise.imp_of_mem (fun {x y} hx hy hxy => ?_) p.2
   rw [add_hd (by have := a.2 x hx; omega), add_hd (by have := a.2 y hy; omega)]
   exact hxy
  ·obtain ⟨j, hj, e⟩ := e1
   exact ⟨j, hj, by rw [add_lg (by have := a.2 j hj; omega)]; exact e⟩
  ·rw [add_lg (by have := a.2 j hj; omega)]; exact e2 j hj
 | again k x =>
  obtain ⟨a, b, j, hj, c, d, e⟩ := h
  exact ⟨a, b, j, hj, c, by rw [add_hd (by omega)]; exact d, by rw [add_lg (by omega)]; exact e⟩
theorem Good.add (G : Good m) (h : PartOk m m.parts.length f ks g) : Good (m.add f ks g) := by
 refine ⟨G.nl, G.nd, G.nw, G.l1, G.l8, G.ln, G.lm, ?_, ?_, fun i p hp => ?_⟩
 ·show (m.hands ++ [ks]).length = (m.parts ++ _).length
  rw [List.length_append, List.length_append, G.hl]
  rfl
 ·show (m.longs ++ [g]).length = (m.parts ++ _).length
  rw [List.length_append, List.length_append, G.gl]
  rfl
 ·have e1 := G.hl
  have e2 := G.gl
  by_cases hi : i < m.parts.length
  ·have hp' : m.parts[i]? = some p := by rw [← hp]; exact (List.getElem?_append_left hi).symm
   obtain ⟨n, o⟩ := G.ps i p hp'
   rw [add_hd (by omega), add_lg (by omega)]
   exact ⟨n, FmOk.add (by omega) (by omega) o.f, o.k, o.o, o.g1, o.g2⟩
  ·have hl : i = m.parts.length := by
    have := (List.getElem?_eq_some_iff.mp hp).1
    have e : (m.add f ks g).parts.length = m.parts.length + 1 := by show (m.parts ++ _).length = _; rw [List.length_append]; rfl
    omega
   subst hl
   have ep : p = (m.nm m.parts.length, f) := by
    have e : (m.add f ks g).parts[m.parts.length]? = some (m.nm m.parts.length, f) := by
     show (m.parts ++ [_])[m.parts.length]? = _
     rw [List.getElem?_append_right (Nat.le_refl _), Nat.sub_self]
     rfl
    rw [hp] at e
    exact Option.some.inj e
   have e3 : (m.add f ks g).hd m.parts.length = ks := by rw [← G.hl]; exact getD_last
   have e4 : (m.add f ks g).lg m.parts.length = g := by rw [← G.gl]; exact getD_last
   rw [ep, e3, e4]
   exact ⟨rfl, FmOk.add (by omega) (by omega) h.f, h.k, h.o, h.g1, h.g2⟩
theorem add_len : (m.add f ks g).parts.length = m.parts.length + 1 := by show (m.parts ++ _).length = _; rw [List.length_append]; rfl
end
noncomputable def Big (ns : List Int) : Prop := ∀ n ∈ ns, 0 ≤ n ∧ n < 33554432
theorem Big.cell {ns : List Int} (h : Big ns) {k : Int} (h0 : 0 ≤ k) (h1 : k < (ns.length : Int)) : 0 ≤ Pr.cell ns k ∧ Pr.cell ns k < 33554432 := h _ (List.mem_of_getElem? (Pr.get_cell h0 h1))
noncomputable def More (z : Ra) (m : Rr) (H : Hp) (Q : VK) : Prop := ∀ m' H', Kp z H H' → RoomAt H' z m' → Good m' → m'.parts.length = m.parts.length + 1 → Q .non H'
noncomputable def sp_simple : Sp := fun vs H Q _ => ∃ (z : Ra) (m : Rr) (c : Int) (p : Addr) (ns : List Int), vs = [.ref z.r, .int c, .ref p] ∧ RoomAt H z m ∧ Good m ∧ m.parts.length < 65 ∧
 H p = some (.lst (ns.map V.int)) ∧ z.off p ∧ 4 ≤ ns.length ∧ Big ns ∧ More z m H Q
theorem at_nameI {ws : List Str} {i : Int} (h0 : 0 ≤ i) (h : i < (ws.length : Int)) : atI (ws.map V.str) i = some (.str (ws.getD i.toNat ⟨#[]⟩)) := by
 have e := at_name (ws := ws) (n := i.toNat) (by omega)
 rw [Int.toNat_of_nonneg h0] at e
 exact e
theorem getD_in {ws : List Str} {n : Nat} (h : n < ws.length) : ws.getD n ⟨#[]⟩ ∈ ws := by
 rw [List.getD_eq_getElem?_getD, List.getElem?_eq_getElem h]
 exact List.getElem_mem h
theorem at_refI {as : List Addr} {i : Int} {a : Addr} (h0 : 0 ≤ i) (h : as[i.toNat]? = some a) : atI (as.map V.ref) i = some (.ref a) := by
 have e : atI (as.map V.ref) ((i.toNat : Nat) : Int) = some (.ref a) := atI_nat (by rw [List.getElem?_map, h]; rfl)
 rw [Int.toNat_of_nonneg h0] at e
 exact e
end Rm
namespace Rm
open PySem PySem.Spec PyProof.Rows L2
noncomputable def sp_there : Sp := fun vs H Q _ => ∃ (z : Ra) (m : Rr) (n : Int), vs = [.ref z.r, .int n] ∧ RoomAt H z m ∧ 0 < m.parts.length ∧ 0 ≤ n ∧ ∀ i : Nat, i < m.parts.length → Q (.int i) H
theorem int_nat {k : Nat} {H : Hp} {Q : VK} (q : ∀ i : Nat, i < k → Q (.int i) H) {x : Int} (h0 : 0 ≤ x) (h1 : x < k) : Q (.int x) H := by
 have e := q x.toNat (by omega)
 rw [Int.toNat_of_nonneg h0] at e
 exact e
noncomputable def vN (j : Nat) : V := .int j
noncomputable def sp_apart : Sp := fun vs H Q _ => ∃ (z : Ra) (m : Rr) (p : Addr) (ns : List Int), vs = [.ref z.r, .ref p] ∧ RoomAt H z m ∧ Good m ∧ 0 < m.parts.length ∧ m.parts.length < 65 ∧ H p = some (.lst (ns.map V.int)) ∧ 6 ≤ ns.length ∧ Big ns ∧
 ∀ (l : Addr) (is : List Nat) (H' : Hp), Same H H' → H l = none → H' l = some (.lst (is.map vN)) → is.length ≤ 4 → (∀ j ∈ is, j < m.parts.length) → Apart m is → Q (.ref l) H'
theorem len_of_lt : ∀ {ks : List Int} {lo hi : Int}, ks.Pairwise (· < ·) → (∀ k ∈ ks, lo ≤ k ∧ k < hi) → ks.length ≤ (hi - lo).toNat
 | [], _, _, _, _ => Nat.zero_le _
 | k :: r, lo, hi, h, b => by
  have h1 := len_of_lt (ks := r) (lo := k + 1) (hi := hi) (List.pairwise_cons.mp h).2 fun x hx => ⟨(List.pairwise_cons.mp h).1 x hx, (b x (List.mem_cons_of_mem _ hx)).2⟩
  have h2 := b k List.mem_cons_self
  rw [List.length_cons]
  omega
theorem hd_len {m : Rr} (G : Good m) {j : Nat} (h : j < m.parts.length) : (m.hd j).length ≤ 8 := by
 obtain ⟨_, o⟩ := G.ps j _ (List.getElem?_eq_getElem h)
 have e := len_of_lt o.o o.k
 have := G.l8
 omega
theorem dv_ints {H : Hp} : ∀ (ks : List Int), DVs H (ks.map V.int) (ks.map PyData.int)
 | [] => .nil
 | k :: r => .cons (.int k) (dv_ints r)
theorem dv_il {H : Hp} {a : Addr} {ks : List Int} (h : H a = some (.lst (ks.map V.int))) : DV H (.ref a) (.list (ks.map PyData.int)) := .lst h (dv_ints ks)
theorem dv_e {H : Hp} {a : Addr} (h : H a = some (.lst [])) : DV H (.ref a) (.list []) := .lst h .nil
theorem eqv_e (ks : List Int) : PyData.eqv (.list (ks.map PyData.int)) (.list []) = decide (ks = []) := by
 cases ks <;> simp [PyData.eqv, PyData.eqvAll]
theorem shp (ks : List Int) : SeqAt.shaped (.list (ks.map PyData.int)) = true := PySem.W.ke_shaped_ints ks
theorem shp0 : SeqAt.shaped (.list []) = true := PySem.W.ke_shaped_ints []
theorem hand_at {H : Hp} {z : Ra} {m : Rr} (R : RoomAt H z m) (G : Good m) {j : Nat} (hj : j < m.parts.length) {hs : List Addr} (eh : H z.ph = some (.lst (hs.map V.ref))) : ∃ a, hs[j]? = some a ∧ H a = some (.lst ((m.hd j).map V.int)) ∧ z.off a := by
 obtain ⟨hs', eh', ah⟩ := R.h
 have e : hs' = hs := by
  rw [eh] at eh'
  injection eh' with e; injection e with e
  exact (List.map_inj_right (fun x y h => by injection h)).mp e.symm
 subst e
 have hl := G.hl
 obtain ⟨a, ha, h1, h2⟩ := ah.get (i := j) (x := m.hd j) (by unfold Rr.hd; rw [List.getD_eq_getElem?_getD, List.getElem?_eq_getElem (by omega)]; rfl)
 exact ⟨a, ha, h1, h2⟩
theorem Apart.snoc {m : Rr} {is : List Nat} {j : Nat} {hs : List Int} (h : Apart m is) (hh : ∀ i ∈ is, ∀ k ∈ m.hd i, k ∈ hs) (h1 : m.hd j ≠ []) (h2 : ∀ k ∈ m.hd j, ¬ k ∈ hs) : Apart m (is ++ [j]) := by
 refine ⟨fun i hi => ?_, List.pairwise_append.mpr ⟨h.2, List.pairwise_singleton _ _, fun a ha b hb k hk hk' => ?_⟩⟩
 ·rcases List.mem_append.mp hi with e | e
  ·exact h.1 i e
  ·have e' : i = j := by simpa using e
   rw [e']; exact h1
 ·have e : b = j := by simpa using hb
  subst e
  exact h2 k hk' (hh a ha k hk)
end Rm
namespace Rm
open PySem PySem.Spec PyProof.Rows L2
theorem in_ints (n : Int) : ∀ hs : List Int, inV (.int n) (hs.map V.int) = decide (n ∈ hs)
 | [] => rfl
 | h :: r => by
  have ih := in_ints n r
  unfold inV at ih ⊢
  rw [List.map_cons, List.any_cons, ih]
  have e : eqV (.int h) (.int n) = decide (h = n) := by
   show decide _ = _
   simp
  rw [e, Bool.eq_iff_iff]
  simp only [Bool.or_eq_true, decide_eq_true_eq, List.mem_cons]
  constructor
  ·rintro (x | x)
   ·exact .inl x.symm
   ·exact .inr x
  ·rintro (x | x)
   ·exact .inl x.symm
   ·exact .inr x
theorem inI (n : Int) (hs : List Int) : (if false = true then !inV (.int n) (hs.map V.int) else inV (.int n) (hs.map V.int)) = decide (n ∈ hs) := by rw [if_neg (by decide), in_ints]
theorem notInI (n : Int) (hs : List Int) : (if true = true then !inV (.int n) (hs.map V.int) else inV (.int n) (hs.map V.int)) = !decide (n ∈ hs) := by rw [if_pos rfl, in_ints]
theorem flats : ∀ hs : List Int, (hs.map V.int).all flatV = true
 | [] => rfl
 | h :: r => by rw [List.map_cons, List.all_cons, flats r]; rfl
theorem take_snoc {α : Type} {l : List α} {i : Nat} {x : α} (h : l[i]? = some x) : l.take (i + 1) = l.take i ++ [x] := by
 rw [List.take_add_one, h]
 rfl
end Rm
namespace Rm
open PySem PySem.Spec PyProof.Rows L2
noncomputable def sp_naming : Sp := fun vs H Q _ => ∃ (z : Ra) (m : Rr) (c : Int) (p : Addr) (ns : List Int), vs = [.ref z.r, .int c, .ref p] ∧ RoomAt H z m ∧ Good m ∧ 0 < m.parts.length ∧ m.parts.length < 65 ∧
 H p = some (.lst (ns.map V.int)) ∧ z.off p ∧ ns.length = 12 ∧ Big ns ∧ More z m H Q
theorem cut_mid {ns : List Int} {h : Int} (h0 : 2 ≤ h) (h1 : h ≤ (ns.length : Int)) : cutV (ns.map V.int) (some 2) (some h) = ((ns.drop 2).take (h - 2).toNat).map V.int := by
 unfold cutV
 rw [List.map_take, List.map_drop]
 have e1 : HT.sIx (ns.map V.int).length 0 (some 2) = 2 := (HT.sIx_nat (ns.map V.int).length 0 2).trans (by rw [List.length_map]; omega)
 have e2 : HT.sIx (ns.map V.int).length (ns.map V.int).length (some h) = h.toNat := by
  show (if h < 0 then _ else min h.toNat _) = _
  rw [if_neg (by omega), List.length_map]
  omega
 rw [e1, e2]
 congr 1
 omega
theorem vN_at {is : List Nat} {i : Nat} {x : V} (h : (is.map vN)[i]? = some x) : ∃ j, is[i]? = some j ∧ x = .int j ∧ j ∈ is := by
 rw [List.getElem?_map] at h
 obtain ⟨j, hj, rfl⟩ := Option.map_eq_some_iff.mp h
 exact ⟨j, hj, rfl, List.mem_of_getElem? hj⟩
theorem long_at {m : Rr} (G : Good m) {j : Nat} (h : j < m.parts.length) : atI (m.longs.map V.int) (j : Int) = some (.int (m.lg j)) := by
 have e := G.gl
 refine atI_nat ?_
 rw [List.getElem?_map]
 unfold Rr.lg
 rw [List.getD_eq_getElem?_getD, List.getElem?_eq_getElem (by omega)]
 rfl
theorem lg_in {m : Rr} (G : Good m) {j : Nat} (h : j < m.parts.length) : 1 ≤ m.lg j ∧ m.lg j ≤ 10 ^ 60 := by
 obtain ⟨_, o⟩ := G.ps j _ (List.getElem?_eq_getElem h)
 exact ⟨o.g1, o.g2⟩
theorem sum_lg {m : Rr} (G : Good m) : ∀ {is : List Nat}, (∀ j ∈ is, j < m.parts.length) → (is.length : Int) ≤ (is.map m.lg).sum ∧ (is.map m.lg).sum ≤ is.length * 10 ^ 60
 | [], _ => ⟨Int.le_refl _, by simp⟩
 | j :: r, h => by
  have a := sum_lg G (is := r) fun x hx => h x (List.mem_cons_of_mem _ hx)
  have b := lg_in G (h j List.mem_cons_self)
  rw [List.map_cons, List.sum_cons, List.length_cons]
  omega
end Rm
namespace Rm
open PySem PySem.Spec PyProof.Rows L2
theorem cut1 {xs : List V} : cutV xs none (some 1) = xs.take 1 := by
 unfold cutV
 rw [show HT.sIx xs.length 0 none = 0 from rfl, show HT.sIx xs.length xs.length (some 1) = min 1 xs.length from HT.sIx_nat xs.length xs.length 1, List.drop_zero, Nat.sub_zero]
 cases xs with
 | nil => rfl
 | cons x r => rw [List.length_cons, show min 1 (r.length + 1) = 1 by omega]
end Rm
namespace Rm
open PySem PySem.Spec PyProof.Rows L2
theorem hd_nd {m : Rr} (G : Good m) {j : Nat} (h : j < m.parts.length) : (m.hd j).Nodup := by
 obtain ⟨_, o⟩ := G.ps j _ (List.getElem?_eq_getElem h)
 exact o.o.imp fun h => Int.ne_of_lt h
theorem hands_step {m : Rr} {is : List Nat} {hs : List Int} {i j : Nat} (hj : is[i]? = some j) (h : ∀ k, k ∈ hs ↔ ∃ x ∈ is.take i, k ∈ m.hd x) (nd : hs.Nodup) (nj : (m.hd j).Nodup) :
  (hs ++ (m.hd j).filter fun k => !decide (k ∈ hs)).Nodup ∧ ∀ k, k ∈ hs ++ (m.hd j).filter (fun k => !decide (k ∈ hs)) ↔ ∃ x ∈ is.take (i + 1), k ∈ m.hd x := by
 constructor
 ·refine List.nodup_append.mpr ⟨nd, nj.filter _, fun a ha b hb e => ?_⟩
  subst e
  have := (List.mem_filter.mp hb).2
  simp [ha] at this
 ·intro k
  rw [take_snoc hj, List.mem_append, h k, List.mem_filter]
  constructor
  ·rintro (⟨x, hx, hk⟩ | ⟨hk, _⟩)
   ·exact ⟨x, List.mem_append_left _ hx, hk⟩
   ·exact ⟨j, List.mem_append_right _ (List.mem_singleton.mpr rfl), hk⟩
  ·rintro ⟨x, hx, hk⟩
   rcases List.mem_append.mp hx with e | e
   ·exact .inl ⟨x, e, hk⟩
   ·have e' : x = j := List.mem_singleton.mp e
    subst e'
    by_cases hin : k ∈ hs
    ·exact .inl ((h k).mp hin)
    ·exact .inr ⟨hk, by simp [hin]⟩
end Rm
namespace Rm
open PySem PySem.Spec PyProof.Rows L2
theorem sorted_lt {ms hs : List Int} (hp : ms.Perm hs) (nd : hs.Nodup) (ho : ms.Pairwise (· ≤ ·)) : ms.Pairwise (· < ·) :=
 (List.Pairwise.and ho (hp.nodup_iff.mpr nd)).imp fun {a b} h => by have h1 := h.1; have h2 : a ≠ b := h.2; omega
theorem hands_ok {m : Rr} (G : Good m) {is : List Nat} (hj : ∀ j ∈ is, j < m.parts.length) {hs : List Int} (hmem : ∀ k, k ∈ hs ↔ ∃ j ∈ is, k ∈ m.hd j) : ∀ k ∈ hs, 0 ≤ k ∧ k < (m.limbs.length : Int) := fun k hk => by
 obtain ⟨j, h1, h2⟩ := (hmem k).mp hk
 exact (G.ps j _ (List.getElem?_eq_getElem (hj j h1))).2.k k h2
end Rm
namespace Rm
open PySem PySem.Spec PyProof.Rows L2
noncomputable def Shp (n : Nat) (d : PyData) : Prop := d.canLay0 = true ∧ d.depth ≤ n
theorem Shp.int {i : Int} : Shp 0 (.int i) := ⟨rfl, Nat.le_refl _⟩
theorem Shp.str {x : Str} (h : PyData.strOk x = true) : Shp 0 (.str x) := ⟨h, Nat.le_refl _⟩
theorem Shp.mono {n k : Nat} {d : PyData} (h : Shp n d) (hk : n ≤ k) : Shp k d := ⟨h.1, Nat.le_trans h.2 hk⟩
theorem shp_all {n : Nat} : ∀ {ds : List PyData}, (∀ d ∈ ds, Shp n d) → PyData.canLayAll0 ds = true ∧ PyData.depthAll ds ≤ n
 | [], _ => ⟨rfl, Nat.zero_le _⟩
 | d :: r, h => by
  have h1 := h d List.mem_cons_self
  have h2 := shp_all (ds := r) fun x hx => h x (List.mem_cons_of_mem _ hx)
  constructor
  ·show (d.canLay0 && PyData.canLayAll0 r) = true
   rw [h1.1, h2.1]; rfl
  ·show max d.depth (PyData.depthAll r) ≤ n
   exact Nat.max_le.mpr ⟨h1.2, h2.2⟩
theorem Shp.lst {n : Nat} {ds : List PyData} (h : ∀ d ∈ ds, Shp n d) : Shp (n + 1) (.list ds) := ⟨(shp_all h).1, Nat.succ_le_succ (shp_all h).2⟩
theorem Shp.tup {n : Nat} {ds : List PyData} (h : ∀ d ∈ ds, Shp n d) : Shp (n + 1) (.tuple ds) := ⟨(shp_all h).1, Nat.succ_le_succ (shp_all h).2⟩
theorem Shp.ok {n : Nat} {d : PyData} (h : Shp n d) (hn : n ≤ 64) : SeqAt.shaped d = true := by
 unfold SeqAt.shaped
 rw [h.1, Bool.true_and]
 exact decide_eq_true (Nat.le_trans h.2 hn)
theorem strOk_W {x : Str} (h : Ws.isW x = true) : PyData.strOk x = true := by
 unfold Ws.isW Ws.among at h
 rw [Bool.and_eq_true] at h
 have h2 := of_decide_eq_true h.2
 unfold PyData.strOk
 rw [Array.all_eq_true_iff_forall_mem]
 intro c hc
 have := mem_lets.mp (h2 c (by simpa using hc))
 exact decide_eq_true (by omega)
theorem len_W {x : Str} (h : Ws.isW x = true) : x.length ≤ 8 := by
 unfold Ws.isW at h
 rw [Bool.and_eq_true] at h
 exact (of_decide_eq_true h.1).2
noncomputable def fmD : Fm → PyData
 | .hold n => .tuple [.str "hold", .int n]
 | .ring x n => .tuple [.str "ring", .str x, .int n]
 | .rise x h n => .tuple [.str "raise", .str x, .int h, .int n]
 | .row ps => .tuple [.str "row", .tuple (ps.map PyData.str)]
 | .side ps => .tuple [.str "side", .tuple (ps.map PyData.str)]
 | .again k x => .tuple [.str "again", .int k, .str x]
noncomputable def partD (p : Str × Fm) : PyData := .tuple [.str p.1, fmD p.2]
noncomputable def limbD (p : Str × Int) : PyData := .tuple [.str p.1, .int p.2]
theorem dv_strs {H : Hp} : ∀ (xs : List Str), DVs H (xs.map V.str) (xs.map PyData.str)
 | [] => .nil
 | x :: r => .cons (.str x) (dv_strs r)
theorem dv_form {H : Hp} {a : Addr} {f : Fm} (h : FormAt H a f) : DV H (.ref a) (fmD f) := by
 cases f with
 | hold n => exact .tup h (.cons (.str _) (.cons (.int _) .nil))
 | ring x n => exact .tup h (.cons (.str _) (.cons (.str _) (.cons (.int _) .nil)))
 | rise x v n => exact .tup h (.cons (.str _) (.cons (.str _) (.cons (.int _) (.cons (.int _) .nil))))
 | row ps => obtain ⟨b, h1, h2⟩ := h; exact .tup h1 (.cons (.str _) (.cons (.tup h2 (dv_strs ps)) .nil))
 | side ps => obtain ⟨b, h1, h2⟩ := h; exact .tup h1 (.cons (.str _) (.cons (.tup h2 (dv_strs ps)) .nil))
 | again k x => exact .tup h (.cons (.str _) (.cons (.int _) (.cons (.str _) .nil)))
theorem dv_part {H : Hp} {a : Addr} {p : Str × Fm} (h : PartAt H a p) : DV H (.ref a) (partD p) := by
 obtain ⟨b, h1, h2⟩ := h
 exact .tup h1 (.cons (.str _) (.cons (dv_form h2) .nil))
theorem dv_limb {H : Hp} {a : Addr} {p : Str × Int} (h : LimbAt H a p) : DV H (.ref a) (limbD p) := .tup h (.cons (.str _) (.cons (.int _) .nil))
theorem All2.tail {α : Type} {R : Addr → α → Prop} {a : Addr} {x : α} {as : List Addr} {xs : List α} (h : All2 R (a :: as) (x :: xs)) : R a x ∧ All2 R as xs :=
 ⟨h.2 0 a x rfl rfl, Nat.succ.inj h.1, fun i b y h1 h2 => h.2 (i + 1) b y (by simpa using h1) (by simpa using h2)⟩
theorem dvs_refs {α : Type} {H : Hp} {R : Addr → α → Prop} {D : α → PyData} (k : ∀ a x, R a x → DV H (.ref a) (D x)) : ∀ {as : List Addr} {xs : List α}, All2 R as xs → DVs H (as.map V.ref) (xs.map D)
 | [], [], _ => .nil
 | [], _ :: _, h => by have := h.1; simp at this
 | _ :: _, [], h => by have := h.1; simp at this
 | _ :: _, _ :: _, h => .cons (k _ _ h.tail.1) (dvs_refs k h.tail.2)
noncomputable def FmWs : Fm → Prop
 | .hold n => 0 ≤ n ∧ n ≤ 10 ^ 18
 | .ring x n => Ws.isW x = true ∧ 0 ≤ n ∧ n ≤ 10 ^ 18
 | .rise x h n => Ws.isW x = true ∧ 0 ≤ h ∧ h ≤ 10 ^ 18 ∧ 0 ≤ n ∧ n ≤ 10 ^ 18
 | .row ps => ps.length ≤ 8 ∧ ∀ x ∈ ps, Ws.isW x = true
 | .side ps => ps.length ≤ 8 ∧ ∀ x ∈ ps, Ws.isW x = true
 | .again k x => 0 ≤ k ∧ k ≤ 10 ^ 18 ∧ Ws.isW x = true
structure BkOk (ls : List (Str × Int)) (ps : List (Str × Fm)) : Prop where
 l8 : ls.length ≤ 8
 ln : ∀ p ∈ ls, Ws.isW p.1 = true ∧ 0 ≤ p.2 ∧ p.2 ≤ 10 ^ 18
 p61 : ps.length ≤ 61
 pn : ∀ p ∈ ps, Ws.isW p.1 = true ∧ FmWs p.2
theorem nm_W {m : Rr} (G : Good m) {j : Nat} (h : j < 68) : Ws.isW (m.nm j) = true := G.nw _ (getD_in (by rw [G.nl]; exact h))
theorem Good.bk {m : Rr} (G : Good m) (h61 : m.parts.length ≤ 61) : BkOk m.limbs m.parts := by
 refine ⟨G.l8, fun p hp => ⟨G.nw _ (G.lm p hp).1, (G.lm p hp).2⟩, h61, fun p hp => ?_⟩
 obtain ⟨i, hi, rfl⟩ := List.mem_iff_getElem.mp hp
 obtain ⟨e, o⟩ := G.ps i _ (List.getElem?_eq_getElem hi)
 refine ⟨by rw [e]; exact nm_W G (by omega), ?_⟩
 have f := o.f
 generalize (m.parts[i]).2 = fm at f
 cases fm with
 | hold n => exact ⟨by have := f.1; omega, f.2.1⟩
 | ring x n => exact ⟨G.nw _ f.1, by have := f.2.1; omega, f.2.2.1⟩
 | rise x v n =>
  obtain ⟨⟨j, v', hj, _⟩, h1, h2, h3, h4, _⟩ := f
  exact ⟨G.nw _ (G.lm _ (List.mem_of_getElem? hj)).1, h1, h2, by omega, h4⟩
 | row ps =>
  obtain ⟨is, ⟨rfl, hlt⟩, h1, h2, _⟩ := f
  refine ⟨by rw [List.length_map]; exact h2, fun x hx => ?_⟩
  obtain ⟨j, hj, rfl⟩ := List.mem_map.mp hx
  exact nm_W G (by have := hlt j hj; omega)
 | side ps =>
  obtain ⟨is, ⟨rfl, hlt⟩, h1, h2, _⟩ := f
  refine ⟨by rw [List.length_map]; omega, fun x hx => ?_⟩
  obtain ⟨j, hj, rfl⟩ := List.mem_map.mp hx
  exact nm_W G (by have := hlt j hj; omega)
 | again k x =>
  obtain ⟨h1, h2, j, hj, rfl, _⟩ := f
  exact ⟨by omega, h2, nm_W G (by omega)⟩
theorem shp_strs {n : Nat} {xs : List Str} (h : ∀ x ∈ xs, Ws.isW x = true) : ∀ d ∈ xs.map PyData.str, Shp n d := fun d hd => by
 obtain ⟨x, hx, rfl⟩ := List.mem_map.mp hd
 exact (Shp.str (strOk_W (h x hx))).mono (Nat.zero_le _)
theorem shp_form {f : Fm} (h : FmWs f) : Shp 2 (fmD f) := by
 cases f with
 | hold n => exact (Shp.tup (n := 0) (by rintro d hd; simp only [List.mem_cons, List.not_mem_nil, or_false] at hd; rcases hd with rfl | rfl; exact Shp.str (by decide +kernel); exact Shp.int)).mono (by decide)
 | ring x n => exact (Shp.tup (n := 0) (by rintro d hd; simp only [List.mem_cons, List.not_mem_nil, or_false] at hd; rcases hd with rfl | rfl | rfl; exact Shp.str (by decide +kernel); exact Shp.str (strOk_W h.1); exact Shp.int)).mono (by decide)
 | rise x v n => exact (Shp.tup (n := 0) (by rintro d hd; simp only [List.mem_cons, List.not_mem_nil, or_false] at hd; rcases hd with rfl | rfl | rfl | rfl; exact Shp.str (by decide +kernel); exact Shp.str (strOk_W h.1); exact Shp.int; exact Shp.int)).mono (by decide)
 | row ps => exact Shp.tup (n := 1) (by rintro d hd; simp only [List.mem_cons, List.not_mem_nil, or_false] at hd; rcases hd with rfl | rfl; exact (Shp.str (by decide +kernel)).mono (by decide); exact Shp.tup (shp_strs h.2))
 | side ps => exact Shp.tup (n := 1) (by rintro d hd; simp only [List.mem_cons, List.not_mem_nil, or_false] at hd; rcases hd with rfl | rfl; exact (Shp.str (by decide +kernel)).mono (by decide); exact Shp.tup (shp_strs h.2))
 | again k x => exact (Shp.tup (n := 0) (by rintro d hd; simp only [List.mem_cons, List.not_mem_nil, or_false] at hd; rcases hd with rfl | rfl | rfl; exact Shp.str (by decide +kernel); exact Shp.int; exact Shp.str (strOk_W h.2.2))).mono (by decide)
theorem shp_parts {ls : List (Str × Int)} {ps : List (Str × Fm)} (B : BkOk ls ps) : Shp 4 (.list (ps.map partD)) := by
 refine Shp.lst fun d hd => ?_
 obtain ⟨p, hp, rfl⟩ := List.mem_map.mp hd
 refine Shp.tup fun d hd => ?_
 simp only [List.mem_cons, List.not_mem_nil, or_false] at hd
 rcases hd with rfl | rfl
 ·exact (Shp.str (strOk_W (B.pn p hp).1)).mono (by decide)
 ·exact shp_form (B.pn p hp).2
noncomputable def bookD (ls : List (Str × Int)) (ps : List (Str × Fm)) : PyData := .tuple [.list (ls.map limbD), .list (ps.map partD)]
structure BookAt (H : Hp) (b pl pp : Addr) (las pas : List Addr) (ls : List (Str × Int)) (ps : List (Str × Fm)) : Prop where
 t : H b = some (.tup [.ref pl, .ref pp])
 l : H pl = some (.lst (las.map V.ref))
 la : All2 (LimbAt H) las ls
 p : H pp = some (.lst (pas.map V.ref))
 pa : All2 (PartAt H) pas ps
theorem FormAt.same {H H' : Hp} {a : Addr} {f : Fm} (s : Same H H') (h : FormAt H a f) : FormAt H' a f := by
 cases f with
 | row ps => obtain ⟨b, h1, h2⟩ := h; exact ⟨b, s _ _ h1, s _ _ h2⟩
 | side ps => obtain ⟨b, h1, h2⟩ := h; exact ⟨b, s _ _ h1, s _ _ h2⟩
 | hold n => exact s _ _ h
 | ring x n => exact s _ _ h
 | rise x g n => exact s _ _ h
 | again x n => exact s _ _ h
theorem PartAt.same {H H' : Hp} {a : Addr} {p : Str × Fm} (s : Same H H') (h : PartAt H a p) : PartAt H' a p := by
 obtain ⟨b, h1, h2⟩ := h
 exact ⟨b, s _ _ h1, FormAt.same s h2⟩
theorem BookAt.same {H H' : Hp} {b pl pp : Addr} {las pas : List Addr} {ls : List (Str × Int)} {ps : List (Str × Fm)} (B : BookAt H b pl pp las pas ls ps) (s : Same H H') : BookAt H' b pl pp las pas ls ps :=
 ⟨s _ _ B.t, s _ _ B.l, B.la.mono fun a x h => s _ _ h, s _ _ B.p, B.pa.mono fun a x h => PartAt.same s h⟩
theorem BookAt.dv {H : Hp} {b pl pp : Addr} {las pas : List Addr} {ls : List (Str × Int)} {ps : List (Str × Fm)} (B : BookAt H b pl pp las pas ls ps) : DV H (.ref b) (bookD ls ps) :=
 .tup B.t (.cons (.lst B.l (dvs_refs (fun _ _ h => dv_limb h) B.la)) (.cons (.lst B.p (dvs_refs (fun _ _ h => dv_part h) B.pa)) .nil))
theorem eqv_parts (ps : List (Str × Fm)) : PyData.eqv (.list (ps.map partD)) (.list []) = decide (ps = []) := by
 cases ps <;> simp [PyData.eqv, PyData.eqvAll]
end Rm
namespace Rm
open PySem PySem.Spec PyProof.Rows L2
noncomputable def tI (n : Int) : Str := Str.ofString (toString n)
noncomputable def bl : Str := " "
noncomputable def limbW (p : Str × Int) : List Str := [p.1, tI p.2]
noncomputable def fmW : Fm → List Str
 | .hold n => ["hold", tI n]
 | .ring x n => ["ring", x, tI n]
 | .rise x h n => ["raise", x, tI h, tI n]
 | .row ps => "row" :: ps
 | .side ps => "side" :: ps
 | .again k x => ["again", tI k, x]
noncomputable def rowL (ls : List (Str × Int)) : Str := Txt.join bl (("limbs" : Str) :: ls.flatMap limbW)
noncomputable def rowP (p : Str × Fm) : Str := Txt.join bl (("part" : Str) :: p.1 :: fmW p.2)
noncomputable def rowsOf (ls : List (Str × Int)) (ps : List (Str × Fm)) : List Str := rowL ls :: ps.map rowP
noncomputable def sp_rows : Sp := fun vs H Q _ => ∃ (b pl pp : Addr) (las pas : List Addr) (ls : List (Str × Int)) (ps : List (Str × Fm)), vs = [.ref b] ∧ BookAt H b pl pp las pas ls ps ∧ BkOk ls ps ∧
 ∀ (l : Addr) (H' : Hp), Same H H' → H l = none → H' l = some (.lst ((rowsOf ls ps).map V.str)) → Q (.ref l) H'
theorem log_ok {n : Int} (h0 : 0 ≤ n) (h1 : n ≤ 10 ^ 18) : n.natAbs.log2 < 1920 := by
 by_cases e : n.natAbs = 0
 ·rw [e]; decide
 ·exact (Nat.log2_lt e).mpr (Nat.lt_of_lt_of_le (show n.natAbs < 2 ^ 60 by omega) (Nat.pow_le_pow_right (by decide) (by decide)))
theorem tI_len {n : Int} (h0 : 0 ≤ n) (h1 : n ≤ 10 ^ 18) : (tI n).length ≤ 19 := toString_length_le h0 (by decide) (by omega)
theorem join_is (z : Str) (ys : List Str) : Txt.join z ys = Str.join z ys := by
 show Builtin.Str.glued z ys = _
 rw [StrLaws.glued_eq_join]
theorem join_len (z : Str) : ∀ ys : List Str, (Str.join z ys).length ≤ (ys.map (·.length)).sum + ys.length * z.length
 | [] => Nat.zero_le _
 | [a] => by
  show a.length ≤ a.length + 0 + 1 * z.length
  omega
 | a :: b :: r => by
  have ih := join_len z (b :: r)
  show (a ++ z ++ Str.join z (b :: r)).length ≤ _
  rw [Str.length_append, Str.length_append, List.map_cons, List.sum_cons, List.length_cons, Nat.add_mul]
  omega
theorem join_snoc (z a : Str) : ∀ ys : List Str, ys ≠ [] → Str.join z (ys ++ [a]) = Str.join z ys ++ z ++ a
 | [], h => absurd rfl h
 | [b], _ => rfl
 | b :: c :: r, _ => by
  show b ++ z ++ Str.join z ((c :: r) ++ [a]) = b ++ z ++ Str.join z (c :: r) ++ z ++ a
  rw [join_snoc z a (c :: r) (by simp)]
  simp only [Str.append_assoc]
theorem sum_len {ys : List Str} {B : Nat} (h : ∀ y ∈ ys, y.length ≤ B) : (ys.map (·.length)).sum ≤ ys.length * B := by
 induction ys with
 | nil => exact Nat.zero_le _
 | cons y r ih =>
  have h1 := h y List.mem_cons_self
  have h2 := ih fun x hx => h x (List.mem_cons_of_mem _ hx)
  rw [List.map_cons, List.sum_cons, List.length_cons, Nat.add_mul]
  omega
theorem fmW_ok {f : Fm} (h : FmWs f) : (fmW f).length ≤ 9 ∧ ∀ y ∈ fmW f, y.length ≤ 19 := by
 have k : ∀ {a : Str}, a ∈ (["hold", "ring", "raise", "row", "side", "again"] : List Str) → a.length ≤ 19 := by decide +kernel
 have w : ∀ {x : Str}, Ws.isW x = true → x.length ≤ 19 := fun h => Nat.le_trans (len_W h) (by decide)
 cases f with
 | hold n =>
  refine ⟨(by show 2 ≤ 9; decide), fun y hy => ?_⟩
  simp only [fmW, List.mem_cons, List.not_mem_nil, or_false] at hy
  rcases hy with rfl | rfl
  ·exact k (by decide +kernel)
  ·exact tI_len h.1 h.2
 | ring x n =>
  refine ⟨(by show 3 ≤ 9; decide), fun y hy => ?_⟩
  simp only [fmW, List.mem_cons, List.not_mem_nil, or_false] at hy
  rcases hy with rfl | rfl | rfl
  ·exact k (by decide +kernel)
  ·exact w h.1
  ·exact tI_len h.2.1 h.2.2
 | rise x v n =>
  refine ⟨(by show 4 ≤ 9; decide), fun y hy => ?_⟩
  simp only [fmW, List.mem_cons, List.not_mem_nil, or_false] at hy
  rcases hy with rfl | rfl | rfl | rfl
  ·exact k (by decide +kernel)
  ·exact w h.1
  ·exact tI_len h.2.1 h.2.2.1
  ·exact tI_len h.2.2.2.1 h.2.2.2.2
 | row ps =>
  refine ⟨Nat.succ_le_succ h.1, fun y hy => ?_⟩
  rcases List.mem_cons.mp hy with rfl | hy
  ·exact k (by decide +kernel)
  ·exact w (h.2 y hy)
 | side ps =>
  refine ⟨Nat.succ_le_succ h.1, fun y hy => ?_⟩
  rcases List.mem_cons.mp hy with rfl | hy
  ·exact k (by decide +kernel)
  ·exact w (h.2 y hy)
 | again n x =>
  refine ⟨(by show 3 ≤ 9; decide), fun y hy => ?_⟩
  simp only [fmW, List.mem_cons, List.not_mem_nil, or_false] at hy
  rcases hy with rfl | rfl | rfl
  ·exact k (by decide +kernel)
  ·exact tI_len h.1 h.2.1
  ·exact w h.2.2
theorem limbW_ok {ls : List (Str × Int)} (h : ∀ p ∈ ls, Ws.isW p.1 = true ∧ 0 ≤ p.2 ∧ p.2 ≤ 10 ^ 18) : (ls.flatMap limbW).length = 2 * ls.length ∧ ∀ y ∈ ls.flatMap limbW, y.length ≤ 19 := by
 induction ls with
 | nil => exact ⟨rfl, fun y hy => nomatch hy⟩
 | cons p r ih =>
  have h1 := h p List.mem_cons_self
  obtain ⟨i1, i2⟩ := ih fun x hx => h x (List.mem_cons_of_mem _ hx)
  rw [List.flatMap_cons]
  refine ⟨by rw [List.length_append, i1, List.length_cons]; show 2 + _ = _; omega, fun y hy => ?_⟩
  rcases List.mem_append.mp hy with e | e
  ·simp only [limbW, List.mem_cons, List.not_mem_nil, or_false] at e
   rcases e with rfl | rfl
   ·exact Nat.le_trans (len_W h1.1) (by decide)
   ·exact tI_len h1.2.1 h1.2.2
  ·exact i2 y e
end Rm
namespace Rm
open PySem PySem.Spec PyProof.Rows L2
noncomputable def lix (c : Int) (k : Nat) : Nat := if c % 3 < 2 then 60 + k else ((c / 3 + 5 * (k : Int)) % 8).toNat
noncomputable def lnm (ws : List Str) (c : Int) (k : Nat) : Str := ws.getD (lix c k) ⟨#[]⟩
theorem at_three {x y : Int} {i : Int} (h0 : 0 ≤ i) (h1 : i < 3) : atI [V.int x, V.int x, V.int y] i = some (.int (if i < 2 then x else y)) := by
 rcases (by omega : i = 0 ∨ i = 1 ∨ i = 2) with e | e | e <;> subst e <;> rfl
theorem lnm_at {ws : List Str} {c : Int} {i : Nat} (hl : ws.length = 68) (hc : 0 ≤ c) (hi : i < 8) :
  0 ≤ (if c % 3 < 2 then 60 + (0 + (i : Int)) else (c / 3 + 5 * (0 + (i : Int))) % 8) ∧ (if c % 3 < 2 then 60 + (0 + (i : Int)) else (c / 3 + 5 * (0 + (i : Int))) % 8) < (ws.length : Int) ∧
   ws.getD (if c % 3 < 2 then 60 + (0 + (i : Int)) else (c / 3 + 5 * (0 + (i : Int))) % 8).toNat ⟨#[]⟩ = lnm ws c i := by
 unfold lnm lix
 rw [hl, Int.zero_add]
 split
 ·exact ⟨by omega, by omega, by rw [show (60 + (i : Int)).toNat = 60 + i by omega]⟩
 ·exact ⟨by omega, by omega, rfl⟩
theorem lix_lt {c : Int} {k : Nat} (h : k < 8) : lix c k < 68 := by
 unfold lix
 split <;> omega
theorem lix_inj {c : Int} {j k : Nat} (hj : j < 8) (hk : k < 8) (h : lix c j = lix c k) : j = k := by
 unfold lix at h
 split at h <;> omega
theorem getD_inj {ws : List Str} (nd : ws.Nodup) {i j : Nat} (hi : i < ws.length) (hj : j < ws.length) (h : ws.getD i ⟨#[]⟩ = ws.getD j ⟨#[]⟩) : i = j := by
 rw [List.getD_eq_getElem?_getD, List.getD_eq_getElem?_getD, List.getElem?_eq_getElem hi, List.getElem?_eq_getElem hj] at h
 have h' : ws[i] = ws[j] := h
 rcases Nat.lt_trichotomy i j with q | q | q
 ·exact absurd h' (List.pairwise_iff_getElem.mp nd i j hi hj q)
 ·exact q
 ·exact absurd h'.symm (List.pairwise_iff_getElem.mp nd j i hj hi q)
theorem lnm_nd {ws : List Str} {c : Int} {n : Nat} (hl : ws.length = 68) (nd : ws.Nodup) (hn : n ≤ 8) : ((List.range n).map (lnm ws c)).Nodup := by
 refine List.pairwise_map.mpr (List.Pairwise.imp_of_mem (fun {a b} ha hb hab e => ?_) List.nodup_range)
 have h1 := List.mem_range.mp ha
 have h2 := List.mem_range.mp hb
 exact hab (lix_inj (by omega) (by omega) (getD_inj nd (by rw [hl]; exact lix_lt (by omega)) (by rw [hl]; exact lix_lt (by omega)) e))
theorem lnm_in {ws : List Str} {c : Int} {n : Nat} (hl : ws.length = 68) (hn : n ≤ 8) {x : Str} (h : x ∈ (List.range n).map (lnm ws c)) : x ∈ ws := by
 obtain ⟨k, hk, rfl⟩ := List.mem_map.mp h
 have := List.mem_range.mp hk
 exact getD_in (by rw [hl]; exact lix_lt (by omega))
end Rm
namespace Rm
open PySem PySem.Spec PyProof.Rows L2
theorem cut_60 {xs : List V} : (cutV xs (some 2) (some 62)).length ≤ 60 := by
 unfold cutV
 rw [List.length_take, show HT.sIx xs.length 0 (some 2) = min 2 xs.length from HT.sIx_nat xs.length 0 2, show HT.sIx xs.length xs.length (some 62) = min 62 xs.length from HT.sIx_nat xs.length xs.length 62]
 omega
end Rm
namespace Rm
open PySem PySem.Spec PyProof.Rows L2
open PyProof.Rows.KTD (inKeys Dat)
noncomputable def MN : List (Str × Dat) := [("row", .flat (.int 8)), ("side", .flat (.int 4))]
noncomputable def TxV (v : V) (w : Str) : Prop := v = .str w ∨ ∃ n : Int, v = .int n ∧ 0 ≤ n ∧ n ≤ 10 ^ 18 ∧ w = tI n
structure FmIt (H : Hp) (a : Addr) (k : Str) (xs : List V) (out : Nat → List Str) (ws : List Str) : Prop where
 t : H a = some (.tup (.str k :: xs))
 o0 : out 0 = []
 e : k :: out xs.length = ws
 l : ∀ i, i ≤ xs.length → (out i).length ≤ 9
 s : ∀ i x, xs[i]? = some x → (∃ b ps, x = .ref b ∧ H b = some (.tup (ps.map V.str)) ∧ out (i + 1) = out i ++ ps) ∨ ∃ w, TxV x w ∧ out (i + 1) = out i ++ [w]
inductive Tx : List V → List Str → Prop
 | nil : Tx [] []
 | cons {v : V} {w : Str} {vs : List V} {ws : List Str} : TxV v w → Tx vs ws → Tx (v :: vs) (w :: ws)
theorem Tx.len {vs : List V} {ws : List Str} (h : Tx vs ws) : vs.length = ws.length := by
 induction h with
 | nil => rfl
 | cons _ _ ih => rw [List.length_cons, List.length_cons, ih]
theorem Tx.get {vs : List V} {ws : List Str} (h : Tx vs ws) : ∀ {i : Nat} {v : V}, vs[i]? = some v → ∃ w, ws[i]? = some w ∧ TxV v w := by
 induction h with
 | nil => intro i v e; simp at e
 | cons hv _ ih =>
  intro i v e
  cases i with
  | zero => simp at e; subst e; exact ⟨_, rfl, hv⟩
  | succ i => simp at e; obtain ⟨w, h1, h2⟩ := ih e; exact ⟨w, by simpa using h1, h2⟩
theorem fm_tx {H : Hp} {a : Addr} {k : Str} {xs : List V} {us : List Str} (ht : H a = some (.tup (.str k :: xs))) (tx : Tx xs us) (hl : us.length ≤ 9) : FmIt H a k xs (fun i => us.take i) (k :: us) := by
 refine ⟨ht, rfl, by rw [tx.len, List.take_length], fun i _ => Nat.le_trans (List.length_take_le' _ _) hl, fun i x hx => .inr ?_⟩
 obtain ⟨w, h1, h2⟩ := tx.get hx
 exact ⟨w, h2, take_snoc h1⟩
theorem fm_ref {H : Hp} {a b : Addr} {k : Str} {ps : List Str} (ht : H a = some (.tup [.str k, .ref b])) (hb : H b = some (.tup (ps.map V.str))) (hl : ps.length ≤ 8) : FmIt H a k [.ref b] (fun i => if i = 0 then [] else ps) (k :: ps) := by
 refine ⟨ht, rfl, rfl, fun i _ => ?_, fun i x hx => .inl ?_⟩
 ·show (if i = 0 then [] else ps).length ≤ 9
  split
  ·exact Nat.zero_le _
  ·omega
 ·cases i with
  | zero => simp at hx; subst hx; exact ⟨b, ps, rfl, hb, rfl⟩
  | succ i => simp at hx
theorem fm_items {H : Hp} {a : Addr} {f : Fm} (h : FormAt H a f) (w : FmWs f) : ∃ k xs out, FmIt H a k xs out (fmW f) := by
 cases f with
 | hold n => exact ⟨_, _, _, fm_tx h (.cons (.inr ⟨n, rfl, w.1, w.2, rfl⟩) .nil) (by show 1 ≤ 9; decide)⟩
 | ring x n => exact ⟨_, _, _, fm_tx h (.cons (.inl rfl) (.cons (.inr ⟨n, rfl, w.2.1, w.2.2, rfl⟩) .nil)) (by show 2 ≤ 9; decide)⟩
 | rise x v n => exact ⟨_, _, _, fm_tx h (.cons (.inl rfl) (.cons (.inr ⟨v, rfl, w.2.1, w.2.2.1, rfl⟩) (.cons (.inr ⟨n, rfl, w.2.2.2.1, w.2.2.2.2, rfl⟩) .nil))) (by show 3 ≤ 9; decide)⟩
 | row ps => obtain ⟨b, h1, h2⟩ := h; exact ⟨_, _, _, fm_ref h1 h2 w.1⟩
 | side ps => obtain ⟨b, h1, h2⟩ := h; exact ⟨_, _, _, fm_ref h1 h2 w.1⟩
 | again k x => exact ⟨_, _, _, fm_tx h (.cons (.inr ⟨k, rfl, w.1, w.2.1, rfl⟩) (.cons (.inl rfl) .nil)) (by show 2 ≤ 9; decide)⟩
theorem at0 {x : V} {xs : List V} : atI (x :: xs) 0 = some x := atI_nat (j := 0) rfl
theorem iteB0 {b : Bool} {A B : Prop} (e : b = false) (h : B) : if b = true then A else B := by rw [e]; exact h
theorem iteB1 {b : Bool} {A B : Prop} (e : b = true) (h : A) : if b = true then A else B := by rw [e]; exact h
theorem bl_len : bl.length = 1 := by decide +kernel
theorem jb {ys : List Str} {n : Nat} (hl : ys.length ≤ n) (h : ∀ y ∈ ys, y.length ≤ 19) : (ys.map (·.length)).sum + ys.length * bl.length ≤ n * 20 := by
 have h1 := sum_len h
 have h2 := Nat.mul_le_mul_right 20 hl
 rw [bl_len]
 omega
theorem rowP_ok {ls : List (Str × Int)} {ps : List (Str × Fm)} (B : BkOk ls ps) {p : Str × Fm} (hp : p ∈ ps) : (((("part" : Str) :: p.1 :: fmW p.2)).map (·.length)).sum + (("part" : Str) :: p.1 :: fmW p.2).length * bl.length ≤ 220 := by
 obtain ⟨h1, h2⟩ := B.pn p hp
 obtain ⟨f1, f2⟩ := fmW_ok h2
 refine jb (n := 11) (by rw [List.length_cons, List.length_cons]; omega) fun y hy => ?_
 rcases List.mem_cons.mp hy with rfl | hy
 ·decide +kernel
 rcases List.mem_cons.mp hy with rfl | hy
 ·exact Nat.le_trans (len_W h1) (by decide)
 ·exact f2 y hy
theorem rowL_ok {ls : List (Str × Int)} (h8 : ls.length ≤ 8) (h : ∀ p ∈ ls, Ws.isW p.1 = true ∧ 0 ≤ p.2 ∧ p.2 ≤ 10 ^ 18) : (((("limbs" : Str) :: ls.flatMap limbW)).map (·.length)).sum + (("limbs" : Str) :: ls.flatMap limbW).length * bl.length ≤ 340 := by
 obtain ⟨f1, f2⟩ := limbW_ok h
 refine jb (n := 17) (by rw [List.length_cons, f1]; omega) fun y hy => ?_
 rcases List.mem_cons.mp hy with rfl | hy
 ·decide +kernel
 ·exact f2 y hy
theorem rowL_len {ls : List (Str × Int)} (h8 : ls.length ≤ 8) (h : ∀ p ∈ ls, Ws.isW p.1 = true ∧ 0 ≤ p.2 ∧ p.2 ≤ 10 ^ 18) : (rowL ls).length ≤ 340 := by
 unfold rowL
 rw [join_is]
 exact Nat.le_trans (join_len _ _) (rowL_ok h8 h)
theorem rows_30 {ls : List (Str × Int)} {ps : List (Str × Fm)} (B : BkOk ls ps) : ((rowsOf ls ps).map (·.length)).sum + (rowsOf ls ps).length * (Str.ofString "\n").length ≤ 30000 := by
 have h := sum_len (ys := rowsOf ls ps) (B := 340) fun y hy => by
  rcases List.mem_cons.mp hy with rfl | hy
  ·exact rowL_len B.l8 B.ln
  ·obtain ⟨p, hp, rfl⟩ := List.mem_map.mp hy
   unfold rowP
   rw [join_is]
   exact Nat.le_trans (join_len _ _) (Nat.le_trans (rowP_ok B hp) (show 220 ≤ 340 by decide))
 have h2 : (rowsOf ls ps).length ≤ 62 := by
  unfold rowsOf
  rw [List.length_cons, List.length_map]
  have := B.p61
  omega
 rw [show (Str.ofString "\n").length = 1 by decide +kernel]
 omega
theorem rows_ok {ls : List (Str × Int)} {ps : List (Str × Fm)} (B : BkOk ls ps) : ((rowsOf ls ps).map (·.length)).sum + (rowsOf ls ps).length * (Str.ofString "\n").length ≤ 16777216 :=Nat.le_trans (rows_30 B) (by decide)
theorem rowL_snoc (ls : List (Str × Int)) (p : Str × Int) : rowL (ls ++ [p]) = rowL ls ++ " " ++ p.1 ++ " " ++ tI p.2 := by
 unfold rowL
 rw [join_is, join_is, List.flatMap_append]
 show Str.join bl ((("limbs" : Str) :: ls.flatMap limbW) ++ ([p.1] ++ [tI p.2])) = _
 rw [← List.append_assoc, join_snoc _ _ _ (by simp), join_snoc _ _ _ (by simp)]
 rfl
theorem cut_tail {x : V} {xs : List V} : cutV (x :: xs) (some 1) none = xs := by
 unfold cutV
 rw [show HT.sIx (x :: xs).length 0 (some 1) = min 1 (x :: xs).length from HT.sIx_nat _ 0 1, show HT.sIx (x :: xs).length (x :: xs).length none = (x :: xs).length from rfl, List.length_cons, show min 1 (xs.length + 1) = 1 by omega]
 show List.take (xs.length + 1 - 1) xs = xs
 rw [Nat.add_sub_cancel, List.take_length]
theorem cut_tail_ok {x : V} {xs : List V} : ¬ (HT.sIx (x :: xs).length 0 (some 1) = 0 ∧ HT.sIx (x :: xs).length (x :: xs).length none = (x :: xs).length) := fun h => by
 have h1 := h.1
 rw [show HT.sIx (x :: xs).length 0 (some 1) = min 1 (x :: xs).length from HT.sIx_nat _ 0 1, List.length_cons] at h1
 omega
theorem All2.at_ref {α : Type} {R : Addr → α → Prop} {as : List Addr} {xs : List α} {i : Nat} {v : V} (h : All2 R as xs) (hv : (as.map V.ref)[i]? = some v) : ∃ a x, v = .ref a ∧ xs[i]? = some x ∧ R a x := by
 rw [List.getElem?_map] at hv
 obtain ⟨a, ha, rfl⟩ := Option.map_eq_some_iff.mp hv
 have hi := (List.getElem?_eq_some_iff.mp ha).1
 have hl := h.1
 have hx : xs[i]? = some xs[i] := List.getElem?_eq_getElem (by omega)
 exact ⟨a, _, rfl, hx, h.2 i a _ ha hx⟩
end Rm
namespace Rm
open PySem PySem.Spec PyProof.Rows L2
theorem cat2 {r : Str} (h : r.length ≤ 340) (n3 : bl.length = 1) : r.length + bl.length ≤ sizeLine := by
 have sz : (1000 : Nat) < sizeLine := by decide
 omega
theorem cat3 {r x : Str} (h : r.length ≤ 340) (n3 : bl.length = 1) (n1 : x.length ≤ 8) : (r ++ bl).length + x.length ≤ sizeLine := by
 have sz : (1000 : Nat) < sizeLine := by decide
 rw [Str.length_append]
 omega
theorem cat4 {r x : Str} (h : r.length ≤ 340) (n3 : bl.length = 1) (n1 : x.length ≤ 8) : (r ++ bl ++ x).length + bl.length ≤ sizeLine := by
 have sz : (1000 : Nat) < sizeLine := by decide
 rw [Str.length_append, Str.length_append]
 omega
theorem cat5 {r x y : Str} (h : r.length ≤ 340) (n3 : bl.length = 1) (n1 : x.length ≤ 8) (n2 : y.length ≤ 19) : (r ++ bl ++ x ++ bl).length + y.length ≤ sizeLine := by
 have sz : (1000 : Nat) < sizeLine := by decide
 rw [Str.length_append, Str.length_append, Str.length_append]
 omega
end Rm
namespace Rm
theorem nodup_len : ∀ {n : Nat} {hs : List Int}, hs.Nodup → (∀ k ∈ hs, 0 ≤ k ∧ k < (n : Int)) → hs.length ≤ n
 | 0, hs, _, h => by
  cases hs with
  | nil => exact Nat.le_refl _
  | cons k r => have := h k List.mem_cons_self; omega
 | n + 1, hs, nd, h => by
  by_cases e : (n : Int) ∈ hs
  ·have i := nodup_len (n := n) (nd.erase (n : Int)) fun k hk => by
    have h1 := h k (List.mem_of_mem_erase hk)
    have h2 : k ≠ (n : Int) := fun z => nd.not_mem_erase (z ▸ hk)
    omega
   have l := List.length_erase_of_mem e
   omega
  ·have i := nodup_len (n := n) nd fun k hk => by
    have h1 := h k hk
    have h2 : k ≠ (n : Int) := fun z => e (z ▸ hk)
    omega
   omega
end Rm
namespace Rm
open PySem PySem.Spec PyProof.Rows L2
noncomputable def Fm.ns : Fm → List Str
 | .row ps => ps
 | .side ps => ps
 | .again _ x => [x]
 | _ => []
noncomputable def numK (xs : List Str) : List (Key × V) := xs.zipIdx.map fun p => (Sum.inr p.1, .int (p.2 : Nat))
theorem numK_snoc (xs : List Str) (x : Str) : numK (xs ++ [x]) = numK xs ++ [(Sum.inr x, .int (xs.length : Nat))] := by
 unfold numK
 rw [List.zipIdx_append, List.map_append]
 simp
theorem numK_len (xs : List Str) : (numK xs).length = xs.length := by simp [numK]
theorem numK_keys (xs : List Str) : (numK xs).map (·.1) = xs.map Sum.inr := by
 unfold numK
 rw [List.map_map]
 have e : ∀ (k : Nat) (xs : List Str), (xs.zipIdx k).map ((fun x => x.1) ∘ fun p : Str × Nat => ((Sum.inr p.1 : Key), V.int (p.2 : Nat))) = xs.map Sum.inr := fun k xs => by
  induction xs generalizing k with
  | nil => rfl
  | cons x r ih => rw [List.zipIdx_cons, List.map_cons, List.map_cons, ih]; rfl
 exact e 0 xs
theorem numK_at {xs : List Str} {j : Nat} {x : Str} (h : xs[j]? = some x) : (numK xs)[j]? = some (Sum.inr x, .int (j : Nat)) := by
 unfold numK
 rw [List.getElem?_map, List.getElem?_zipIdx, h]
 simp
theorem val_at : ∀ {kvs : List (Key × V)} {j : Nat} {k : Key} {v : V}, (kvs.map (·.1)).Nodup → kvs[j]? = some (k, v) → valV kvs k = some v
 | [], j, k, v, _, h => by simp at h
 | p :: r, 0, k, v, _, h => by
  simp at h
  subst h
  unfold valV
  simp
 | p :: r, j + 1, k, v, nd, h => by
  rw [List.map_cons, List.nodup_cons] at nd
  have h' : r[j]? = some (k, v) := by simpa using h
  have ne : p.1 ≠ k := fun e => nd.1 (e ▸ List.mem_map.mpr ⟨(k, v), List.mem_of_getElem? h', rfl⟩)
  have ih := val_at nd.2 h'
  unfold valV at ih ⊢
  rw [List.find?_cons, decide_eq_false ne]
  exact ih
theorem numK_val {xs : List Str} (nd : xs.Nodup) {j : Nat} {x : Str} (h : xs[j]? = some x) : valV (numK xs) (Sum.inr x) = some (.int (j : Nat)) :=
 val_at (by rw [numK_keys]; exact List.pairwise_map.mpr (nd.imp fun h e => h (Sum.inr.inj e))) (numK_at h)
theorem putK_new {kvs : List (Key × V)} {k : Key} {v : V} (h : k ∉ kvs.map (·.1)) : putK kvs k v = kvs ++ [(k, v)] := by
 unfold putK
 rw [if_neg]
 intro e
 obtain ⟨p, hp, hk⟩ := List.any_eq_true.mp e
 exact h (List.mem_map.mpr ⟨p, hp, of_decide_eq_true hk⟩)
noncomputable def nmsOf {α : Type} (ps : List (Str × α)) : List Str := ps.map (·.1)
structure WfB (ls : List (Str × Int)) (ps : List (Str × Fm)) : Prop where
 ln : (nmsOf ls).Nodup
 l8 : ls.length ≤ 8
 pn : (nmsOf ps).Nodup
 p61 : ps.length ≤ 61
 f : ∀ (i : Nat) (p : Str × Fm), ps[i]? = some p → (∀ x ∈ p.2.ns, ∃ j, j < i ∧ (nmsOf ps)[j]? = some x) ∧ p.2.ns.length ≤ 8
 r : ∀ (i : Nat) (y x : Str) (h n : Int), ps[i]? = some (y, .rise x h n) → ∃ j : Nat, (nmsOf ls)[j]? = some x
theorem nm_at {m : Rr} (G : Good m) {j : Nat} (h : j < m.parts.length) : (nmsOf m.parts)[j]? = some (m.nm j) := by
 unfold nmsOf
 rw [List.getElem?_map, List.getElem?_eq_getElem h]
 exact congrArg some (G.ps j _ (List.getElem?_eq_getElem h)).1
theorem Good.wf {m : Rr} (G : Good m) (h61 : m.parts.length ≤ 61) : WfB m.limbs m.parts := by
 have nmd : ∀ i j, i < m.parts.length → j < m.parts.length → m.nm i = m.nm j → i = j := fun i j hi hj e => getD_inj G.nd (by rw [G.nl]; omega) (by rw [G.nl]; omega) e
 refine ⟨G.ln, G.l8, ?_, h61, fun i p hp => ?_, fun i y x h n hp => ?_⟩
 ·refine List.pairwise_iff_getElem.mpr fun i j hi hj hij e => ?_
  have li : i < m.parts.length := by simpa [nmsOf] using hi
  have lj : j < m.parts.length := by simpa [nmsOf] using hj
  have ei := nm_at G li
  have ej := nm_at G lj
  rw [List.getElem?_eq_getElem hi] at ei
  rw [List.getElem?_eq_getElem hj] at ej
  have := nmd i j li lj ((Option.some.inj ei).symm.trans (e.trans (Option.some.inj ej)))
  omega
 ·obtain ⟨_, o⟩ := G.ps i p hp
  have hi := (List.getElem?_eq_some_iff.mp hp).1
  have f := o.f
  generalize p.2 = fm at f
  cases fm with
  | hold n => exact ⟨(fun x h => nomatch h), Nat.zero_le _⟩
  | ring x n => exact ⟨(fun x h => nomatch h), Nat.zero_le _⟩
  | rise x v n => exact ⟨(fun x h => nomatch h), Nat.zero_le _⟩
  | row ps =>
   obtain ⟨is, ⟨rfl, hlt⟩, h1, h2, _⟩ := f
   refine ⟨fun x hx => ?_, by show (is.map m.nm).length ≤ 8; rw [List.length_map]; exact h2⟩
   obtain ⟨j, hj, rfl⟩ := List.mem_map.mp (show x ∈ is.map m.nm from hx)
   exact ⟨j, hlt j hj, nm_at G (by have := hlt j hj; omega)⟩
  | side ps =>
   obtain ⟨is, ⟨rfl, hlt⟩, h1, h2, _⟩ := f
   refine ⟨fun x hx => ?_, by show (is.map m.nm).length ≤ 8; rw [List.length_map]; omega⟩
   obtain ⟨j, hj, rfl⟩ := List.mem_map.mp (show x ∈ is.map m.nm from hx)
   exact ⟨j, hlt j hj, nm_at G (by have := hlt j hj; omega)⟩
  | again k x =>
   obtain ⟨h1, h2, j, hj, rfl, _⟩ := f
   refine ⟨fun y hy => ?_, by show 1 ≤ 8; decide⟩
   have e : y = m.nm j := List.mem_singleton.mp (show y ∈ [m.nm j] from hy)
   rw [e]
   exact ⟨j, hj, nm_at G (by omega)⟩
 ·obtain ⟨_, o⟩ := G.ps i _ hp
  obtain ⟨⟨j, v', hj, _⟩, _⟩ := o.f
  exact ⟨j, by unfold nmsOf; rw [List.getElem?_map, hj]; rfl⟩
noncomputable def sp_numbers_of : Sp := fun vs H Q _ => ∃ (l : Addr) (as : List Addr) (xs : List Str), vs = [.ref l] ∧ H l = some (.lst (as.map V.ref)) ∧ as.length = xs.length ∧ (∀ (i : Nat) (a : Addr) (x : Str), as[i]? = some a → xs[i]? = some x → ∃ r, H a = some (.tup [.str x, r])) ∧
 xs.Nodup ∧ xs.length ≤ 100 ∧ ∀ (d : Addr) (H' : Hp), Same H H' → H d = none → H' d = some (.dK (numK xs)) → Q (.ref d) H'
end Rm
namespace Rm
open PySem PySem.Spec PyProof.Rows L2
end Rm
namespace Rm
open PySem PySem.Spec PyProof.Rows L2
end Rm
namespace Rm
open PySem PySem.Spec PyProof.Rows L2
end Rm
namespace Rm
open PySem PySem.Spec PyProof.Rows L2
end Rm
namespace Rm
open PySem PySem.Spec PyProof.Rows L2
end Rm
namespace Rm
open PySem PySem.Spec PyProof.Rows L2
noncomputable def AlD : Nat → PyData → Prop
 | 0, _ => False
 | _ + 1, .int _ => True
 | _ + 1, .str _ => True
 | d + 1, .list ds => ds.length ≤ 150 ∧ ∀ x ∈ ds, AlD d x
 | d + 1, .tuple ds => ds.length ≤ 150 ∧ ∀ x ∈ ds, AlD d x
 | _ + 1, _ => False
noncomputable def sp_alike (d : Nat) : Sp := fun vs H Q _ => ∃ (x y : V) (D : PyData), vs = [x, y] ∧ DV H x D ∧ DV H y D ∧ AlD d D ∧ Q (.bl true) H
theorem no_alike {vs : List V} {H : Hp} {Q : VK} {E : XK} : ¬ sp_alike 0 vs H Q E := fun ⟨_, _, D, _, _, _, h, _⟩ => by
 cases D <;> exact h
theorem dvs_len {H : Hp} : ∀ {xs : List V} {ds : List PyData}, DVs H xs ds → xs.length = ds.length
 | _, _, .nil => rfl
 | _, _, .cons _ r => by rw [List.length_cons, List.length_cons, dvs_len r]
theorem dvs_get {H : Hp} : ∀ {xs : List V} {ds : List PyData}, DVs H xs ds → ∀ {i : Nat}, i < ds.length → ∃ x d, xs[i]? = some x ∧ ds[i]? = some d ∧ DV H x d
 | _, _, .nil, i, h => absurd h (Nat.not_lt_zero _)
 | _, _, .cons a r, 0, _ => ⟨_, _, rfl, rfl, a⟩
 | _, _, .cons a r, i + 1, h => by
  obtain ⟨x, d, e1, e2, e3⟩ := dvs_get r (i := i) (by simpa using h)
  exact ⟨x, d, by simpa using e1, by simpa using e2, e3⟩
theorem atI_nat {xs : List V} {i : Nat} {x : V} (h : xs[i]? = some x) : atI xs (0 + (i : Int)) = some x := by
 obtain ⟨hi, rfl⟩ := List.getElem?_eq_some_iff.mp h
 rw [Int.zero_add]
 unfold atI
 simp [hi, ixN]
end Rm
namespace Nm
open PySem PySem.Spec PyProof.Rows L2
theorem head_dig : ∀ m : Nat, 1 ≤ m → ∃ c r, Nat.toDigits 10 m = c :: r ∧ c ≠ '0' := by
 intro m
 induction m using Nat.strongRecOn with
 | ind m ih =>
  intro h
  rw [Nat.toDigits_eq_if (by decide)]
  split
  ·rename_i lt
   refine ⟨_, [], rfl, ?_⟩
   have : ∀ k : Nat, k < 10 → 1 ≤ k → Nat.digitChar k ≠ '0' := by decide
   exact this m lt h
  ·rename_i ge
   obtain ⟨c, r, e, nz⟩ := ih (m / 10) (by omega) (by omega)
   exact ⟨c, r ++ [Nat.digitChar (m % 10)], by rw [e]; rfl, nz⟩
theorem all_dig : ∀ m : Nat, ∀ c ∈ Nat.toDigits 10 m, 48 ≤ c.toNat ∧ c.toNat ≤ 57 := by
 intro m
 induction m using Nat.strongRecOn with
 | ind m ih =>
  intro c hc
  have dc : ∀ k : Nat, k < 10 → 48 ≤ (Nat.digitChar k).toNat ∧ (Nat.digitChar k).toNat ≤ 57 := by decide
  rw [Nat.toDigits_eq_if (by decide)] at hc
  split at hc
  ·rename_i lt
   rw [List.mem_singleton.mp hc]
   exact dc m lt
  ·rename_i ge
   rcases List.mem_append.mp hc with z | z
   ·exact ih (m / 10) (by omega) c z
   ·rw [List.mem_singleton.mp z]
    exact dc _ (by omega)
theorem num_back {n : Int} (h0 : 0 ≤ n) (h1 : n ≤ 10 ^ 18) : Ws.numV (Rm.tI n) 19 = .int n := by
 obtain ⟨m, rfl⟩ := Int.eq_ofNat_of_zero_le h0
 have sg : (Rm.tI (m : Int)).cps.toList = (Nat.toDigits 10 m).map Char.toNat := PySem.W.KIN.signs_num m
 have ln := Rm.tI_len h0 h1
 have le : (Rm.tI (m : Int)).length = (Nat.toDigits 10 m).length := by
  have := congrArg List.length sg
  rw [List.length_map] at this
  exact this
 have ne : 1 ≤ (Nat.toDigits 10 m).length := by
  rw [Nat.toDigits_eq_if (by decide)]
  split
  ·exact Nat.le_refl _
  ·rw [List.length_append]; show 1 ≤ _ + 1; omega
 unfold Ws.numV
 rw [if_pos, sg, PySem.W.KIN.val_back]
 refine ⟨⟨by omega, by omega⟩, ?_, ?_⟩
 ·unfold Ws.among
  refine decide_eq_true fun c hc => ?_
  rw [sg] at hc
  obtain ⟨d, hd, rfl⟩ := List.mem_map.mp hc
  have := all_dig m d hd
  have f : Ws.figs.cps.toList = List.range' 48 10 := by decide +kernel
  rw [f, List.mem_range'_1]
  omega
 ·rintro ⟨hh, hl⟩
  by_cases z : m = 0
  ·subst z
   exact hl (by rw [le]; rfl)
  ·obtain ⟨c, r, e, nz⟩ := head_dig m (by omega)
   rw [sg, e] at hh
   have : c.toNat = 48 := Option.some.inj hh
   exact nz (Char.ext (UInt32.toNat_inj.mp this))
end Nm
namespace Rm
open PySem PySem.Spec PyProof.Rows L2
noncomputable def sp_bounded : Sp := fun vs H Q _ => ∃ (n least : Int), vs = [.str (tI n), .int least] ∧ 0 ≤ n ∧ n ≤ 10 ^ 18 ∧ least ≤ n ∧ ∀ H', Same H H' → Q (.int n) H'
noncomputable def ValOk (wanted text : Str) (k1 k2 : List (Key × V)) (r : V) : Prop :=
 (wanted = "height" ∧ ∃ n : Int, text = tI n ∧ 0 ≤ n ∧ n ≤ 10 ^ 18 ∧ r = .int n) ∨ ((wanted = "beats" ∨ wanted = "times") ∧ ∃ n : Int, text = tI n ∧ 1 ≤ n ∧ n ≤ 10 ^ 18 ∧ r = .int n) ∨
 (wanted = "word" ∧ Ws.isW text = true ∧ text.length ≤ 200 ∧ r = .str text) ∨ (wanted = "limb" ∧ (valV k1 (Sum.inr text)).isSome = true ∧ r = .str text) ∨ (wanted = "part" ∧ (valV k2 (Sum.inr text)).isSome = true ∧ r = .str text)
noncomputable def sp_value_of : Sp := fun vs H Q _ => ∃ (wanted text : Str) (d1 d2 : Addr) (k1 k2 : List (Key × V)) (r : V), vs = [.str wanted, .str text, .ref d1, .ref d2] ∧ H d1 = some (.dK k1) ∧ H d2 = some (.dK k2) ∧ ValOk wanted text k1 k2 r ∧ ∀ H', Same H H' → Q r H'
noncomputable def ManyOk (kind : Str) (n : Nat) : Prop := (kind = "row" ∧ 1 ≤ n ∧ n ≤ 8) ∨ (kind = "side" ∧ 2 ≤ n ∧ n ≤ 4)
noncomputable def sp_names_form : Sp := fun vs H Q _ => ∃ (kind : Str) (l d : Addr) (ws : List Str) (kvs : List (Key × V)), vs = [.str kind, .ref l, .ref d] ∧ ManyOk kind ws.length ∧ H l = some (.lst (ws.map V.str)) ∧ H d = some (.dK kvs) ∧ (∀ w ∈ ws, (valV kvs (Sum.inr w)).isSome = true) ∧
 ∀ (p b : Addr) (H' : Hp), Same H H' → H' p = some (.tup [.str kind, .ref b]) → H' b = some (.tup (ws.map V.str)) → Q (.ref p) H'
theorem ManyOk.tabs {kind : Str} {n : Nat} (h : ManyOk kind n) : ∃ lo hi : Int, KTD.datumAt kind [(("row" : Str), KTD.Dat.flat (.int 1)), ("side", .flat (.int 2))] = some (.flat (.int lo)) ∧ KTD.datumAt kind [(("row" : Str), KTD.Dat.flat (.int 8)), ("side", .flat (.int 4))] = some (.flat (.int hi)) ∧ lo ≤ n ∧ (n : Int) ≤ hi ∧ n ≤ 8 := by
 have r : decide (("row" : Str) = "row") = true := by decide +kernel
 have s1 : decide (("side" : Str) = "row") = false := by decide +kernel
 have s2 : decide (("side" : Str) = "side") = true := by decide +kernel
 rcases h with ⟨rfl, a, b⟩ | ⟨rfl, a, b⟩
 ·refine ⟨1, 8, ?_, ?_, by omega, by omega, by omega⟩ <;> rw [KTD.datumAt, if_pos r]
 ·refine ⟨2, 4, ?_, ?_, by omega, by omega, by omega⟩ <;> rw [KTD.datumAt, if_neg (by rw [s1]; decide), KTD.datumAt, if_pos s2]
noncomputable def FmRd (k1 k2 : List (Key × V)) : Fm → Prop
 | .rise x h n => (valV k1 (Sum.inr x)).isSome = true ∧ 0 ≤ h ∧ h ≤ 10 ^ 18 ∧ 1 ≤ n ∧ n ≤ 10 ^ 18
 | .hold n => 1 ≤ n ∧ n ≤ 10 ^ 18
 | .ring x n => Ws.isW x = true ∧ 1 ≤ n ∧ n ≤ 10 ^ 18
 | .row ps => ManyOk "row" ps.length ∧ ∀ x ∈ ps, (valV k2 (Sum.inr x)).isSome = true
 | .side ps => ManyOk "side" ps.length ∧ ∀ x ∈ ps, (valV k2 (Sum.inr x)).isSome = true
 | .again k x => 1 ≤ k ∧ k ≤ 10 ^ 18 ∧ (valV k2 (Sum.inr x)).isSome = true
noncomputable def sp_form_of : Sp := fun vs H Q _ => ∃ (f : Fm) (kind : Str) (ws : List Str) (l d1 d2 : Addr) (k1 k2 : List (Key × V)), vs = [.str kind, .ref l, .ref d1, .ref d2] ∧ fmW f = kind :: ws ∧ H l = some (.lst (ws.map V.str)) ∧ H d1 = some (.dK k1) ∧ H d2 = some (.dK k2) ∧ FmRd k1 k2 f ∧
 ∀ (p : Addr) (H' : Hp), Same H H' → FormAt H' p f → Q (.ref p) H'
noncomputable def sp_part_of : Sp := fun vs H Q _ => ∃ (f : Fm) (x : Str) (l d1 d2 : Addr) (k1 k2 : List (Key × V)), vs = [.ref l, .ref d1, .ref d2] ∧ H l = some (.lst ((("part" : Str) :: x :: fmW f).map V.str)) ∧ H d1 = some (.dK k1) ∧ H d2 = some (.dK k2) ∧ FmRd k1 k2 f ∧ Ws.isW x = true ∧ x.length ≤ 200 ∧ valV k2 (Sum.inr x) = none ∧
 ∀ (a : Addr) (H' : Hp), Same H H' → PartAt H' a (x, f) → Q (.ref a) H'
theorem fmW_cons {k1 k2 : List (Key × V)} {f : Fm} (h : FmRd k1 k2 f) : ∃ kind ws, fmW f = kind :: ws ∧ 1 ≤ ws.length := by
 cases f with
 | row ps => exact ⟨_, _, rfl, by rcases h.1 with ⟨_, a, _⟩ | ⟨_, a, _⟩ <;> omega⟩
 | side ps => exact ⟨_, _, rfl, by rcases h.1 with ⟨_, a, _⟩ | ⟨_, a, _⟩ <;> omega⟩
 | hold n => exact ⟨_, _, rfl, by simp⟩
 | ring x n => exact ⟨_, _, rfl, by simp⟩
 | rise x v n => exact ⟨_, _, rfl, by simp⟩
 | again k x => exact ⟨_, _, rfl, by simp⟩
end Rm
namespace Rm
open PySem PySem.Spec PyProof.Rows L2
open PyProof.Rows.KTD (inKeys Dat datumAt)
noncomputable def FT : List (Str × Dat) := [("raise", .tup [.str "limb", .str "height", .str "beats"]), ("hold", .tup [.str "beats"]), ("ring", .tup [.str "word", .str "beats"]), ("again", .tup [.str "times", .str "part"])]
theorem dat_hd {k x : Str} {d : Dat} {r : List (Str × Dat)} (h : decide (k = x) = true) : datumAt k ((x, d) :: r) = some d := by rw [datumAt, if_pos h]
theorem dat_tl {k x : Str} {d : Dat} {r : List (Str × Dat)} (h : decide (k = x) = false) : datumAt k ((x, d) :: r) = datumAt k r := by rw [datumAt, if_neg (by rw [h]; decide)]
inductive Vs3 (k1 k2 : List (Key × V)) : List Str → List Str → List V → Prop
 | nil : Vs3 k1 k2 [] [] []
 | cons {a w : Str} {r : V} {as ws : List Str} {rs : List V} : ValOk a w k1 k2 r → Vs3 k1 k2 as ws rs → Vs3 k1 k2 (a :: as) (w :: ws) (r :: rs)
theorem Vs3.len {k1 k2 : List (Key × V)} {as ws : List Str} {rs : List V} (h : Vs3 k1 k2 as ws rs) : as.length = ws.length ∧ rs.length = ws.length := by
 induction h with
 | nil => exact ⟨rfl, rfl⟩
 | cons _ _ ih => exact ⟨congrArg (· + 1) ih.1, congrArg (· + 1) ih.2⟩
theorem Vs3.get {k1 k2 : List (Key × V)} {as ws : List Str} {rs : List V} (h : Vs3 k1 k2 as ws rs) : ∀ {i : Nat} {a w : Str}, as[i]? = some a → ws[i]? = some w → ∃ r, rs[i]? = some r ∧ ValOk a w k1 k2 r := by
 induction h with
 | nil => intro i a w e; simp at e
 | cons hv _ ih =>
  intro i a w e1 e2
  cases i with
  | zero => simp at e1 e2; subst e1 e2; exact ⟨_, rfl, hv⟩
  | succ i => simp at e1 e2; obtain ⟨r, h1, h2⟩ := ih e1 e2; exact ⟨r, by simpa using h1, h2⟩
structure OneOk (k1 k2 : List (Key × V)) (f : Fm) (kind : Str) (ws wants : List Str) (rs : List V) : Prop where
 d : datumAt kind FT = some (.tup (wants.map PyData.str))
 v : Vs3 k1 k2 wants ws rs
 l : ws.length ≤ 3
 n : rs ≠ []
 fl : rs.all flatV = true
 nn : inV .non rs = false
 f : ∀ (H : Hp) (p : Addr), H p = some (.tup (.str kind :: rs)) → FormAt H p f
theorem form_kinds {k1 k2 : List (Key × V)} {f : Fm} {kind : Str} {ws : List Str} (h : FmRd k1 k2 f) (e : fmW f = kind :: ws) :
  (inKeys kind MN = true ∧ ManyOk kind ws.length ∧ (∀ x ∈ ws, (valV k2 (Sum.inr x)).isSome = true) ∧ ∀ (H : Hp) (p b : Addr), H p = some (.tup [.str kind, .ref b]) → H b = some (.tup (ws.map V.str)) → FormAt H p f) ∨
  (inKeys kind MN = false ∧ inKeys kind FT = true ∧ ∃ wants rs, OneOk k1 k2 f kind ws wants rs) := by
 cases f with
 | row ps => obtain ⟨rfl, rfl⟩ := List.cons.inj e; exact .inl ⟨by decide +kernel, h.1, h.2, fun H p b h1 h2 => ⟨b, h1, h2⟩⟩
 | side ps => obtain ⟨rfl, rfl⟩ := List.cons.inj e; exact .inl ⟨by decide +kernel, h.1, h.2, fun H p b h1 h2 => ⟨b, h1, h2⟩⟩
 | hold n =>
  obtain ⟨rfl, rfl⟩ := List.cons.inj e
  refine .inr ⟨by decide +kernel, by decide +kernel, [("beats" : Str)], [.int n], ?_, .cons (.inr (.inl ⟨.inl rfl, n, rfl, h.1, h.2, rfl⟩)) .nil, by show 1 ≤ 3; decide, by simp, rfl, rfl, fun H p q => q⟩
  exact (dat_tl (by decide +kernel)).trans (dat_hd (by decide +kernel))
 | ring x n =>
  obtain ⟨rfl, rfl⟩ := List.cons.inj e
  refine .inr ⟨by decide +kernel, by decide +kernel, [("word" : Str), "beats"], [.str x, .int n], ?_, .cons (.inr (.inr (.inl ⟨rfl, h.1, Nat.le_trans (len_W h.1) (by decide), rfl⟩))) (.cons (.inr (.inl ⟨.inl rfl, n, rfl, h.2.1, h.2.2, rfl⟩)) .nil), by show 2 ≤ 3; decide, by simp, rfl, rfl, fun H p q => q⟩
  exact (dat_tl (by decide +kernel)).trans ((dat_tl (by decide +kernel)).trans (dat_hd (by decide +kernel)))
 | rise x v n =>
  obtain ⟨rfl, rfl⟩ := List.cons.inj e
  obtain ⟨h1, h2, h3, h4, h5⟩ := h
  refine .inr ⟨by decide +kernel, by decide +kernel, [("limb" : Str), "height", "beats"], [.str x, .int v, .int n], ?_, .cons (.inr (.inr (.inr (.inl ⟨rfl, h1, rfl⟩)))) (.cons (.inl ⟨rfl, v, rfl, h2, h3, rfl⟩) (.cons (.inr (.inl ⟨.inl rfl, n, rfl, h4, h5, rfl⟩)) .nil)), by show 3 ≤ 3; decide, by simp, rfl, rfl, fun H p q => q⟩
  exact dat_hd (by decide +kernel)
 | again k x =>
  obtain ⟨rfl, rfl⟩ := List.cons.inj e
  obtain ⟨h1, h2, h3⟩ := h
  refine .inr ⟨by decide +kernel, by decide +kernel, [("times" : Str), "part"], [.int k, .str x], ?_, .cons (.inr (.inl ⟨.inr rfl, k, rfl, h1, h2, rfl⟩)) (.cons (.inr (.inr (.inr (.inr ⟨rfl, h3, rfl⟩)))) .nil), by show 2 ≤ 3; decide, by simp, rfl, rfl, fun H p q => q⟩
  exact (dat_tl (by decide +kernel)).trans ((dat_tl (by decide +kernel)).trans ((dat_tl (by decide +kernel)).trans (dat_hd (by decide +kernel))))
theorem ev_cons {α : Type} (a : α) (l : List α) : ev (a :: l) = a :: ev (l.drop 1) := by
 cases l with
 | nil => rfl
 | cons b r => rfl
theorem ev_limb : ∀ ls : List (Str × Int), ev ((ls.flatMap limbW).map V.str) = (ls.map (·.1)).map V.str
 | [] => rfl
 | p :: r => by
  show V.str p.1 :: ev ((r.flatMap limbW).map V.str) = _
  rw [ev_limb r]
  rfl
theorem ev_high : ∀ ls : List (Str × Int), ev (((ls.flatMap limbW).map V.str).drop 1) = (ls.map fun p => tI p.2).map V.str
 | [] => rfl
 | p :: r => by
  show ev (V.str (tI p.2) :: (r.flatMap limbW).map V.str) = _
  rw [ev_cons, ev_high r]
  rfl
noncomputable def LmRd (ls : List (Str × Int)) : Prop := 1 ≤ ls.length ∧ ls.length ≤ 8 ∧ (ls.map (·.1)).Nodup ∧ ∀ p ∈ ls, Ws.isW p.1 = true ∧ 0 ≤ p.2 ∧ p.2 ≤ 10 ^ 18
noncomputable def sp_limbs_of : Sp := fun vs H Q _ => ∃ (l : Addr) (ls : List (Str × Int)), vs = [.ref l] ∧ H l = some (.lst ((("limbs" : Str) :: ls.flatMap limbW).map V.str)) ∧ LmRd ls ∧
 ∀ (c : Addr) (as : List Addr) (H' : Hp), Same H H' → H c = none → H' c = some (.lst (as.map V.ref)) → All2 (LimbAt H') as ls → Q (.ref c) H'
noncomputable def tabB (xs : List Str) : List (Key × V) := xs.map fun x => (Sum.inr x, V.bl true)
theorem tabB_keys (xs : List Str) : (tabB xs).map (·.1) = xs.map Sum.inr := by simp [tabB]
theorem tabB_some : ∀ {xs : List Str} {x : Str}, x ∈ xs → (valV (tabB xs) (Sum.inr x)).isSome = true
 | [], _, h => nomatch h
 | y :: r, x, h => by
  by_cases e : y = x
  ·subst e
   rw [show tabB (y :: r) = (Sum.inr y, V.bl true) :: tabB r from rfl, valV_pos rfl]
   rfl
  ·rw [show tabB (y :: r) = (Sum.inr y, V.bl true) :: tabB r from rfl, valV_neg (fun z => e (Sum.inr.inj z))]
   rcases List.mem_cons.mp h with z | z
   ·exact absurd z.symm e
   ·exact tabB_some z
theorem tabB_none : ∀ {xs : List Str} {x : Str}, x ∉ xs → valV (tabB xs) (Sum.inr x) = none
 | [], _, _ => rfl
 | y :: r, x, h => by
  rw [show tabB (y :: r) = (Sum.inr y, V.bl true) :: tabB r from rfl, valV_neg (fun z => h (by rw [Sum.inr.inj z]; exact List.mem_cons_self))]
  exact tabB_none fun z => h (List.mem_cons_of_mem _ z)
theorem tabB_put {xs : List Str} {x : Str} (h : x ∉ xs) : putK (tabB xs) (Sum.inr x) (.bl true) = tabB (xs ++ [x]) := by
 rw [putK_new, show tabB (xs ++ [x]) = tabB xs ++ [(Sum.inr x, V.bl true)] by simp [tabB]]
 rw [tabB_keys]
 intro z
 obtain ⟨y, hy, e⟩ := List.mem_map.mp z
 exact h (Sum.inr.inj e ▸ hy)
structure RdOk (ls : List (Str × Int)) (ps : List (Str × Fm)) : Prop where
 l : LmRd ls
 b : BkOk ls ps
 p1 : 1 ≤ ps.length
 p60 : ps.length ≤ 60
 pn : (ps.map (·.1)).Nodup
 f : ∀ i p, ps[i]? = some p → FmRd (numK (ls.map (·.1))) (tabB ((ps.take i).map (·.1))) p.2
noncomputable def sp_read : Sp := fun vs H Q _ => ∃ (ls : List (Str × Int)) (ps : List (Str × Fm)), vs = [.str (Txt.join "\n" (rowsOf ls ps))] ∧ RdOk ls ps ∧
 ∀ (b pl pp : Addr) (las pas : List Addr) (H' : Hp), Same H H' → H pl = none → H pp = none → pl ≠ pp → BookAt H' b pl pp las pas ls ps → Q (.ref b) H'
noncomputable def sp_room8 (K : PySem.W.Frag) : Sp := fun vs H Q _ => ∃ (a : Addr) (ns : List Int), vs = [.ref a] ∧ SqL K H a (ns.map V.int) ∧ ns.length ≤ 63 ∧
 ∀ (z : Ra) (m : Rr) (H' : Hp), Same H H' → RoomAt H' z m → Good m → 1 ≤ m.parts.length → m.parts.length ≤ 60 → Q (.ref z.r) H'
theorem nm_in {m : Rr} (G : Good m) {i j : Nat} (h : j < i) (hi : i < m.parts.length) : m.nm j ∈ (m.parts.take i).map (·.1) := by
 have e := nm_at G (j := j) (by omega)
 unfold nmsOf at e
 rw [List.getElem?_map] at e
 obtain ⟨p, hp, e⟩ := Option.map_eq_some_iff.mp e
 exact List.mem_map.mpr ⟨p, List.mem_of_getElem? (i := j) (by rw [List.getElem?_take, if_pos h]; exact hp), e⟩
theorem Good.rd {m : Rr} (G : Good m) (h1 : 1 ≤ m.parts.length) (h60 : m.parts.length ≤ 60) : RdOk m.limbs m.parts := by
 have W := G.wf (by omega)
 have B := G.bk (by omega)
 refine ⟨⟨G.l1, G.l8, G.ln, B.ln⟩, B, h1, h60, W.pn, fun i p hp => ?_⟩
 have hi := (List.getElem?_eq_some_iff.mp hp).1
 obtain ⟨_, o⟩ := G.ps i p hp
 have f := o.f
 generalize p.2 = fm at f ⊢
 cases fm with
 | hold n => exact ⟨f.1, f.2.1⟩
 | ring x n => exact ⟨G.nw _ f.1, f.2.1, f.2.2.1⟩
 | rise x v n =>
  obtain ⟨⟨j, v', hj, _⟩, f1, f2, f3, f4, _⟩ := f
  refine ⟨?_, f1, f2, f3, f4⟩
  rw [numK_val G.ln (j := j) (x := x) (by rw [List.getElem?_map, hj]; rfl)]
  rfl
 | row ps =>
  obtain ⟨is, ⟨rfl, hlt⟩, f1, f2, _⟩ := f
  refine ⟨.inl ⟨rfl, by rw [List.length_map]; exact f1, by rw [List.length_map]; exact f2⟩, fun x hx => ?_⟩
  obtain ⟨j, hj, rfl⟩ := List.mem_map.mp hx
  exact tabB_some (nm_in G (hlt j hj) hi)
 | side ps =>
  obtain ⟨is, ⟨rfl, hlt⟩, f1, f2, _⟩ := f
  refine ⟨.inr ⟨rfl, by rw [List.length_map]; exact f1, by rw [List.length_map]; exact f2⟩, fun x hx => ?_⟩
  obtain ⟨j, hj, rfl⟩ := List.mem_map.mp hx
  exact tabB_some (nm_in G (hlt j hj) hi)
 | again k x =>
  obtain ⟨f1, f2, j, hj, rfl, _⟩ := f
  exact ⟨f1, f2, tabB_some (nm_in G hj hi)⟩
noncomputable def Cln (y : Str) : Prop := ∀ c ∈ y.cps.toList, 48 ≤ c
theorem cln_W {x : Str} (h : Ws.isW x = true) : Cln x := by
 unfold Ws.isW Ws.among at h
 rw [Bool.and_eq_true] at h
 have h2 := of_decide_eq_true h.2
 intro c hc
 have := mem_lets.mp (h2 c (by simpa using hc))
 omega
theorem cln_I {n : Int} (h0 : 0 ≤ n) : Cln (tI n) := by
 obtain ⟨m, rfl⟩ := Int.eq_ofNat_of_zero_le h0
 have sg : (tI (m : Int)).cps.toList = (Nat.toDigits 10 m).map Char.toNat := PySem.W.KIN.signs_num m
 intro c hc
 rw [sg] at hc
 obtain ⟨d, hd, rfl⟩ := List.mem_map.mp hc
 exact (Nm.all_dig m d hd).1
theorem cln_fm {f : Fm} (h : FmWs f) : ∀ y ∈ fmW f, Cln y := by
 have two : ∀ {a b : Str}, Cln a → Cln b → ∀ y ∈ [a, b], Cln y := fun p q y hy => by
  rcases List.mem_cons.mp hy with rfl | hy
  ·exact p
  ·rw [List.mem_singleton.mp hy]; exact q
 have onto : ∀ {a : Str} {r : List Str}, Cln a → (∀ y ∈ r, Cln y) → ∀ y ∈ a :: r, Cln y := fun p q y hy => by
  rcases List.mem_cons.mp hy with rfl | hy
  ·exact p
  ·exact q y hy
 cases f with
 | hold n => exact two (by unfold Cln; decide +kernel) (cln_I h.1)
 | ring x n => exact onto (by unfold Cln; decide +kernel) (two (cln_W h.1) (cln_I h.2.1))
 | rise x v n => exact onto (by unfold Cln; decide +kernel) (onto (cln_W h.1) (two (cln_I h.2.1) (cln_I h.2.2.2.1)))
 | row ps => exact onto (by unfold Cln; decide +kernel) fun y hy => cln_W (h.2 y hy)
 | side ps => exact onto (by unfold Cln; decide +kernel) fun y hy => cln_W (h.2 y hy)
 | again k x => exact onto (by unfold Cln; decide +kernel) (two (cln_I h.1) (cln_W h.2.2))
theorem glue_mem {c d : Nat} : ∀ {ws : List (List Nat)}, c ∈ Sp.glue d ws → c = d ∨ ∃ w ∈ ws, c ∈ w
 | [], h => nomatch h
 | [w], h => .inr ⟨w, List.mem_cons_self, h⟩
 | w :: v :: r, h => by
  have h : c ∈ w ++ d :: Sp.glue d (v :: r) := h
  rcases List.mem_append.mp h with z | z
  ·exact .inr ⟨w, List.mem_cons_self, z⟩
  rcases List.mem_cons.mp z with z | z
  ·exact .inl z
  rcases glue_mem z with z | ⟨u, hu, z⟩
  ·exact .inl z
  ·exact .inr ⟨u, List.mem_cons_of_mem _ hu, z⟩
theorem join_glue {c : Nat} : ∀ ys : List Str, (Str.join ⟨#[c]⟩ ys).cps.toList = Sp.glue c (ys.map fun y => y.cps.toList)
 | [] => rfl
 | [a] => rfl
 | a :: b :: r => by
  show (a ++ ⟨#[c]⟩ ++ Str.join ⟨#[c]⟩ (b :: r)).cps.toList = a.cps.toList ++ c :: Sp.glue c ((b :: r).map fun y => y.cps.toList)
  rw [← join_glue (b :: r)]
  show ((a.cps ++ #[c]) ++ (Str.join ⟨#[c]⟩ (b :: r)).cps).toList = _
  simp
theorem back_strs (ys : List Str) : (ys.map fun y => y.cps.toList).map (fun u => (⟨u.toArray⟩ : Str)) = ys := by
 rw [List.map_map]
 conv => rhs; rw [← List.map_id ys]
 exact List.map_congr_left fun y _ => by simp
theorem split_of {z sep : Str} {c : Nat} {ys : List Str} (hs : sep = ⟨#[c]⟩) (hz : z = Txt.join sep ys) (h2 : 2 ≤ ys.length) (hy : ∀ y ∈ ys, c ∉ y.cps.toList) (hl : ys.length ≤ sizeLine) :
  ∃ (v w : List Nat) (ws : List (List Nat)), (∀ u ∈ v :: w :: ws, c ∉ u) ∧ z.cps.toList = Sp.glue c (v :: w :: ws) ∧ ws.length + 2 ≤ sizeLine ∧ ((v :: w :: ws).map fun u => (⟨u.toArray⟩ : Str)) = ys := by
 subst hs
 match ys, h2, hy, hl, hz with
 | a :: b :: r, _, hy, hl, hz =>
  refine ⟨a.cps.toList, b.cps.toList, r.map fun (y : Str) => y.cps.toList, fun u hu => ?_, ?_, by rw [List.length_map]; exact hl, back_strs (a :: b :: r)⟩
  ·have hu : u ∈ (a :: b :: r).map fun y => y.cps.toList := hu
   obtain ⟨y, hy', rfl⟩ := List.mem_map.mp hu
   exact hy y hy'
  ·rw [hz, join_is, join_glue]
   rfl
theorem no10 {ys : List Str} (h : ∀ y ∈ ys, Cln y) : 10 ∉ (Txt.join bl ys).cps.toList := fun z => by
 rw [join_is, show bl = ⟨#[32]⟩ by decide +kernel, join_glue] at z
 rcases glue_mem z with e | ⟨w, hw, hc⟩
 ·exact absurd e (by decide)
 ·obtain ⟨y, hy, rfl⟩ := List.mem_map.mp hw
  have := h y hy 10 hc
  omega
theorem no32 {y : Str} (h : Cln y) : 32 ∉ y.cps.toList := fun z => by
 have := h 32 z
 omega
theorem cln_rowL {ls : List (Str × Int)} (h : ∀ p ∈ ls, Ws.isW p.1 = true ∧ 0 ≤ p.2 ∧ p.2 ≤ 10 ^ 18) : ∀ y ∈ ("limbs" : Str) :: ls.flatMap limbW, Cln y := fun y hy => by
 rcases List.mem_cons.mp hy with rfl | hy
 ·unfold Cln; decide +kernel
 ·obtain ⟨p, hp, hy⟩ := List.mem_flatMap.mp hy
  rcases List.mem_cons.mp hy with rfl | hy
  ·exact cln_W (h p hp).1
  ·rw [List.mem_singleton.mp hy]; exact cln_I (h p hp).2.1
theorem cln_rowP {x : Str} {f : Fm} (hx : Ws.isW x = true) (h : FmWs f) : ∀ y ∈ ("part" : Str) :: x :: fmW f, Cln y := fun y hy => by
 rcases List.mem_cons.mp hy with rfl | hy
 ·unfold Cln; decide +kernel
 rcases List.mem_cons.mp hy with rfl | hy
 ·exact cln_W hx
 ·exact cln_fm h y hy
theorem cln_rows {ls : List (Str × Int)} {ps : List (Str × Fm)} (B : BkOk ls ps) : ∀ y ∈ rowsOf ls ps, 10 ∉ y.cps.toList := fun y hy => by
 rcases List.mem_cons.mp hy with rfl | hy
 ·exact no10 (cln_rowL B.ln)
 ·obtain ⟨p, hp, rfl⟩ := List.mem_map.mp hy
  exact no10 (cln_rowP (B.pn p hp).1 (B.pn p hp).2)
theorem rows_len {ls : List (Str × Int)} {ps : List (Str × Fm)} (B : BkOk ls ps) : (Txt.join "\n" (rowsOf ls ps)).length ≤ 30000 := by
 rw [join_is]
 exact Nat.le_trans (join_len _ _) (rows_30 B)
theorem rowP_len {ls : List (Str × Int)} {ps : List (Str × Fm)} (B : BkOk ls ps) {p : Str × Fm} (hp : p ∈ ps) : (rowP p).length ≤ 220 := by
 unfold rowP
 rw [join_is]
 exact Nat.le_trans (join_len _ _) (rowP_ok B hp)
theorem PartAt.put {H H' : Hp} {a : Addr} {p : Str × Fm} (k : ∀ b xs, H b = some (.tup xs) → H' b = some (.tup xs)) (h : PartAt H a p) : PartAt H' a p := by
 obtain ⟨b, h1, h2⟩ := h
 refine ⟨b, k _ _ h1, ?_⟩
 generalize p.2 = f at h2 ⊢
 cases f with
 | row ps => obtain ⟨c, q1, q2⟩ := h2; exact ⟨c, k _ _ q1, k _ _ q2⟩
 | side ps => obtain ⟨c, q1, q2⟩ := h2; exact ⟨c, k _ _ q1, k _ _ q2⟩
 | hold n => exact k _ _ h2
 | ring x n => exact k _ _ h2
 | rise x v n => exact k _ _ h2
 | again k' x => exact k _ _ h2
theorem al_two {d : Nat} {a b : PyData} (h1 : AlD d a) (h2 : AlD d b) : AlD (d + 1) (.tuple [a, b]) := ⟨by show 2 ≤ 150; omega, fun x hx => by
 rcases List.mem_cons.mp hx with rfl | hx
 ·exact h1
 ·rw [List.mem_singleton.mp hx]; exact h2⟩
theorem al_flat {ds : List PyData} (h : ds.length ≤ 150) (hd : ∀ x ∈ ds, (∃ i, x = .int i) ∨ ∃ t, x = .str t) (d : Nat) : AlD (d + 2) (.tuple ds) := ⟨h, fun x hx => by
 rcases hd x hx with ⟨i, rfl⟩ | ⟨t, rfl⟩ <;> trivial⟩
theorem al_names {k : Str} {ps : List Str} (h : ps.length ≤ 8) : AlD 3 (.tuple [.str k, .tuple (ps.map PyData.str)]) :=
 al_two trivial (al_flat (d := 0) (by rw [List.length_map]; omega) fun x hx => by obtain ⟨t, _, rfl⟩ := List.mem_map.mp hx; exact .inr ⟨t, rfl⟩)
theorem al_form {f : Fm} (w : FmWs f) : AlD 3 (fmD f) := by
 have m2 : ∀ {a b : PyData}, AlD 2 a → AlD 2 b → AlD 3 (.tuple [a, b]) := fun p q => al_two p q
 cases f with
 | hold n => exact al_flat (d := 1) (by show 2 ≤ 150; omega) fun x hx => by simp only [List.mem_cons, List.not_mem_nil, or_false] at hx; rcases hx with rfl | rfl; exact .inr ⟨_, rfl⟩; exact .inl ⟨_, rfl⟩
 | ring x n => exact al_flat (d := 1) (by show 3 ≤ 150; omega) fun x hx => by simp only [List.mem_cons, List.not_mem_nil, or_false] at hx; rcases hx with rfl | rfl | rfl; exact .inr ⟨_, rfl⟩; exact .inr ⟨_, rfl⟩; exact .inl ⟨_, rfl⟩
 | rise x v n => exact al_flat (d := 1) (by show 4 ≤ 150; omega) fun x hx => by simp only [List.mem_cons, List.not_mem_nil, or_false] at hx; rcases hx with rfl | rfl | rfl | rfl; exact .inr ⟨_, rfl⟩; exact .inr ⟨_, rfl⟩; exact .inl ⟨_, rfl⟩; exact .inl ⟨_, rfl⟩
 | row ps => exact al_names w.1
 | side ps => exact al_names w.1
 | again k x => exact al_flat (d := 1) (by show 3 ≤ 150; omega) fun x hx => by simp only [List.mem_cons, List.not_mem_nil, or_false] at hx; rcases hx with rfl | rfl | rfl; exact .inr ⟨_, rfl⟩; exact .inl ⟨_, rfl⟩; exact .inr ⟨_, rfl⟩
theorem al_book {ls : List (Str × Int)} {ps : List (Str × Fm)} (B : BkOk ls ps) : AlD 6 (bookD ls ps) := by
 show AlD 6 (.tuple [.list (ls.map limbD), .list (ps.map partD)])
 refine al_two ⟨by rw [List.length_map]; have := B.l8; omega, fun x hx => ?_⟩ ⟨by rw [List.length_map]; have := B.p61; omega, fun x hx => ?_⟩
 ·obtain ⟨p, _, rfl⟩ := List.mem_map.mp hx
  exact al_two (d := 3) trivial trivial
 ·obtain ⟨p, hp, rfl⟩ := List.mem_map.mp hx
  exact al_two (d := 3) trivial (al_form (B.pn p hp).2)
end Rm
namespace K08
open PySem L2
noncomputable def top (i : Nat) : Stmt := PySem.Challenge.pw_camplay_k08_books_read.main.body.getD i (.Pass ⟨0, 0, 0, 0⟩)
noncomputable abbrev s_all_among : Stmt := top 6
theorem sc_all_among : FnScope ["text", "signs"] ["text", "signs"] (defScope s_all_among) := ⟨rfl, rfl, rfl, by decide +kernel, rfl, by decide +kernel, by decide +kernel⟩
noncomputable abbrev s_is_word : Stmt := top 7
theorem sc_is_word : FnScope ["text"] ["text"] (defScope s_is_word) := ⟨rfl, rfl, rfl, by decide +kernel, rfl, by decide +kernel, by decide +kernel⟩
noncomputable abbrev s_number_of : Stmt := top 8
theorem sc_number_of : FnScope ["text", "most"] ["text", "most"] (defScope s_number_of) := ⟨rfl, rfl, rfl, by decide +kernel, rfl, by decide +kernel, by decide +kernel⟩
noncomputable abbrev s_numbers_of : Stmt := top 13
theorem sc_numbers_of : FnScope ["named", "numbers", "number", "one"] ["named"] (defScope s_numbers_of) := ⟨rfl, rfl, rfl, by decide +kernel, rfl, by decide +kernel, by decide +kernel⟩
noncomputable abbrev s_bounded : Stmt := top 14
theorem sc_bounded : FnScope ["text", "least", "number"] ["text", "least"] (defScope s_bounded) := ⟨rfl, rfl, rfl, by decide +kernel, rfl, by decide +kernel, by decide +kernel⟩
noncomputable abbrev s_value_of : Stmt := top 15
theorem sc_value_of : FnScope ["wanted", "text", "limbs", "parts", "known"] ["wanted", "text", "limbs", "parts"] (defScope s_value_of) := ⟨rfl, rfl, rfl, by decide +kernel, rfl, by decide +kernel, by decide +kernel⟩
noncomputable abbrev s_names_form : Stmt := top 16
theorem sc_names_form : FnScope ["kind", "words", "parts"] ["kind", "words", "parts"] (defScope s_names_form) := ⟨rfl, rfl, rfl, by decide +kernel, rfl, by decide +kernel, by decide +kernel⟩
noncomputable abbrev s_form_of : Stmt := top 17
theorem sc_form_of : FnScope ["kind", "words", "limbs", "parts", "values"] ["kind", "words", "limbs", "parts"] (defScope s_form_of) := ⟨rfl, rfl, rfl, by decide +kernel, rfl, by decide +kernel, by decide +kernel⟩
noncomputable abbrev s_part_of : Stmt := top 18
theorem sc_part_of : FnScope ["words", "limbs", "parts", "form"] ["words", "limbs", "parts"] (defScope s_part_of) := ⟨rfl, rfl, rfl, by decide +kernel, rfl, by decide +kernel, by decide +kernel⟩
noncomputable abbrev s_limbs_of : Stmt := top 19
theorem sc_limbs_of : FnScope ["words", "names", "heights"] ["words"] (defScope s_limbs_of) := ⟨rfl, rfl, rfl, by decide +kernel, rfl, by decide +kernel, by decide +kernel⟩
noncomputable abbrev s_read : Stmt := top 20
theorem sc_read : FnScope ["text", "rows", "limbs", "limb_names", "part_names", "parts", "row", "line", "part"] ["text"] (defScope s_read) := ⟨rfl, rfl, rfl, by decide +kernel, rfl, by decide +kernel, by decide +kernel⟩
noncomputable abbrev s__law_cell_at : Stmt := top 22
theorem sc__law_cell_at : FnScope ["_law_script", "_law_k"] ["_law_script", "_law_k"] (defScope s__law_cell_at) := ⟨rfl, rfl, rfl, by decide +kernel, rfl, by decide +kernel, by decide +kernel⟩
noncomputable abbrev s__law_window : Stmt := top 23
theorem sc__law_window : FnScope ["_law_cell", "_law_turn", "_law_k"] ["_law_cell", "_law_turn"] (defScope s__law_window) := ⟨rfl, rfl, rfl, by decide +kernel, rfl, by decide +kernel, by decide +kernel⟩
noncomputable abbrev s__law_stream : Stmt := top 24
theorem sc__law_stream : FnScope ["_law_cell", "_law_many", "_law_found", "_law_number_here", "_law_k"] ["_law_cell", "_law_many"] (defScope s__law_stream) := ⟨rfl, rfl, rfl, by decide +kernel, rfl, by decide +kernel, by decide +kernel⟩
noncomputable abbrev s__law_names : Stmt := top 25
theorem sc__law_names : FnScope ["_law_cell", "_law_many", "_law_letters", "_law_some", "_law_base", "_law_at", "_law_names_here", "_law_k", "_law_two"] ["_law_cell", "_law_many"] (defScope s__law_names) := ⟨rfl, rfl, rfl, by decide +kernel, rfl, by decide +kernel, by decide +kernel⟩
noncomputable abbrev s__law_number : Stmt := top 26
theorem sc__law_number : FnScope ["_law_cell", "_law_mixed", "_law_least", "_law_way", "_law_power"] ["_law_cell", "_law_mixed", "_law_least"] (defScope s__law_number) := ⟨rfl, rfl, rfl, by decide +kernel, rfl, by decide +kernel, by decide +kernel⟩
noncomputable abbrev s__law_add : Stmt := top 27
theorem sc__law_add : FnScope ["_law_room_here", "_law_form", "_law_hands", "_law_long"] ["_law_room_here", "_law_form", "_law_hands", "_law_long"] (defScope s__law_add) := ⟨rfl, rfl, rfl, by decide +kernel, rfl, by decide +kernel, by decide +kernel⟩
noncomputable abbrev s__law_simple : Stmt := top 28
theorem sc__law_simple : FnScope ["_law_room_here", "_law_cell", "_law_some", "_law_beats", "_law_limb", "_law_high"] ["_law_room_here", "_law_cell", "_law_some"] (defScope s__law_simple) := ⟨rfl, rfl, rfl, by decide +kernel, rfl, by decide +kernel, by decide +kernel⟩
noncomputable abbrev s__law_there : Stmt := top 29
theorem sc__law_there : FnScope ["_law_room_here", "_law_number_here", "_law_many"] ["_law_room_here", "_law_number_here"] (defScope s__law_there) := ⟨rfl, rfl, rfl, by decide +kernel, rfl, by decide +kernel, by decide +kernel⟩
noncomputable abbrev s__law_apart : Stmt := top 30
theorem sc__law_apart : FnScope ["_law_room_here", "_law_some", "_law_there_here", "_law_hands", "_law_k", "_law_first", "_law_step", "_law_one", "_law_here"] ["_law_room_here", "_law_some"] (defScope s__law_apart) := ⟨rfl, rfl, rfl, by decide +kernel, rfl, by decide +kernel, by decide +kernel⟩
noncomputable abbrev s__law_naming : Stmt := top 31
theorem sc__law_naming : FnScope ["_law_room_here", "_law_cell", "_law_some", "_law_there_here", "_law_long", "_law_hands", "_law_one", "_law_names_here", "_law_times"] ["_law_room_here", "_law_cell", "_law_some"] (defScope s__law_naming) := ⟨rfl, rfl, rfl, by decide +kernel, rfl, by decide +kernel, by decide +kernel⟩
noncomputable abbrev s__law_room : Stmt := top 32
theorem sc__law_room : FnScope ["_law_script", "_law_first", "_law_names_here", "_law_limbs", "_law_k", "_law_at", "_law_high", "_law_room_here", "_law_cell", "_law_some"] ["_law_script"] (defScope s__law_room) := ⟨rfl, rfl, rfl, by decide +kernel, rfl, by decide +kernel, by decide +kernel⟩
noncomputable abbrev s__law_rows : Stmt := top 33
theorem sc__law_rows : FnScope ["_law_book", "_law_rows_here", "_law_name", "_law_high", "_law_form", "_law_words", "_law_one"] ["_law_book"] (defScope s__law_rows) := ⟨rfl, rfl, rfl, by decide +kernel, rfl, by decide +kernel, by decide +kernel⟩
noncomputable abbrev s__law_alike : Stmt := top 34
theorem sc__law_alike : FnScope ["_law_found", "_law_due", "_law_k"] ["_law_found", "_law_due"] (defScope s__law_alike) := ⟨rfl, rfl, rfl, by decide +kernel, rfl, by decide +kernel, by decide +kernel⟩
noncomputable abbrev s_law : Stmt := top 35
theorem sc_law : FnScope ["_law_script", "_law_room_here", "_law_book", "_law_text", "_law_found"] ["_law_script"] (defScope s_law) := ⟨rfl, rfl, rfl, by decide +kernel, rfl, by decide +kernel, by decide +kernel⟩
set_option genInjectivity false in
set_option genSizeOf false in
structure Ad where
  a_all_among : Addr
  d_all_among : FuncData
  a_is_word : Addr
  d_is_word : FuncData
  a_number_of : Addr
  d_number_of : FuncData
  t_number_of : Addr
  a_numbers_of : Addr
  d_numbers_of : FuncData
  a_bounded : Addr
  d_bounded : FuncData
  a_value_of : Addr
  d_value_of : FuncData
  a_names_form : Addr
  d_names_form : FuncData
  a_form_of : Addr
  d_form_of : FuncData
  a_part_of : Addr
  d_part_of : FuncData
  a_limbs_of : Addr
  d_limbs_of : FuncData
  a_read : Addr
  d_read : FuncData
  a__law_cell_at : Addr
  d__law_cell_at : FuncData
  a__law_window : Addr
  d__law_window : FuncData
  a__law_stream : Addr
  d__law_stream : FuncData
  a__law_names : Addr
  d__law_names : FuncData
  a__law_number : Addr
  d__law_number : FuncData
  a__law_add : Addr
  d__law_add : FuncData
  a__law_simple : Addr
  d__law_simple : FuncData
  a__law_there : Addr
  d__law_there : FuncData
  a__law_apart : Addr
  d__law_apart : FuncData
  a__law_naming : Addr
  d__law_naming : FuncData
  a__law_room : Addr
  d__law_room : FuncData
  a__law_rows : Addr
  d__law_rows : FuncData
  a__law_alike : Addr
  d__law_alike : FuncData
  a_law : Addr
  d_law : FuncData
  u_FEWEST_NAMES : Addr
  u_FIGURES : Value
  u_FORMS : Addr
  u_LETTERS : Value
  u_MOST_NAMES : Addr
structure Txt (K : PySem.W.Frag) (mg : Str → Option Value) (t : Ad) : Prop where
  F_all_among : Fun K "all_among" "all_among" s_all_among t.a_all_among t.d_all_among
  m_all_among : mg "all_among" = some (.ref t.a_all_among)
  B_all_among : Binds K t.d_all_among ["text", "signs"] []
  F_is_word : Fun K "is_word" "is_word" s_is_word t.a_is_word t.d_is_word
  m_is_word : mg "is_word" = some (.ref t.a_is_word)
  B_is_word : Binds K t.d_is_word ["text"] []
  F_number_of : FunD K "number_of" "number_of" s_number_of t.t_number_of t.a_number_of t.d_number_of
  m_number_of : mg "number_of" = some (.ref t.a_number_of)
  B_number_of : Binds K t.d_number_of ["text", "most"] []
  F_numbers_of : Fun K "numbers_of" "numbers_of" s_numbers_of t.a_numbers_of t.d_numbers_of
  m_numbers_of : mg "numbers_of" = some (.ref t.a_numbers_of)
  B_numbers_of : Binds K t.d_numbers_of ["named"] []
  F_bounded : Fun K "bounded" "bounded" s_bounded t.a_bounded t.d_bounded
  m_bounded : mg "bounded" = some (.ref t.a_bounded)
  B_bounded : Binds K t.d_bounded ["text", "least"] []
  F_value_of : Fun K "value_of" "value_of" s_value_of t.a_value_of t.d_value_of
  m_value_of : mg "value_of" = some (.ref t.a_value_of)
  B_value_of : Binds K t.d_value_of ["wanted", "text", "limbs", "parts"] []
  F_names_form : Fun K "names_form" "names_form" s_names_form t.a_names_form t.d_names_form
  m_names_form : mg "names_form" = some (.ref t.a_names_form)
  B_names_form : Binds K t.d_names_form ["kind", "words", "parts"] []
  F_form_of : Fun K "form_of" "form_of" s_form_of t.a_form_of t.d_form_of
  m_form_of : mg "form_of" = some (.ref t.a_form_of)
  B_form_of : Binds K t.d_form_of ["kind", "words", "limbs", "parts"] []
  F_part_of : Fun K "part_of" "part_of" s_part_of t.a_part_of t.d_part_of
  m_part_of : mg "part_of" = some (.ref t.a_part_of)
  B_part_of : Binds K t.d_part_of ["words", "limbs", "parts"] []
  F_limbs_of : Fun K "limbs_of" "limbs_of" s_limbs_of t.a_limbs_of t.d_limbs_of
  m_limbs_of : mg "limbs_of" = some (.ref t.a_limbs_of)
  B_limbs_of : Binds K t.d_limbs_of ["words"] []
  F_read : Fun K "read" "read" s_read t.a_read t.d_read
  m_read : mg "read" = some (.ref t.a_read)
  B_read : Binds K t.d_read ["text"] []
  F__law_cell_at : Fun K "_law_cell_at" "_law_cell_at" s__law_cell_at t.a__law_cell_at t.d__law_cell_at
  m__law_cell_at : mg "_law_cell_at" = some (.ref t.a__law_cell_at)
  B__law_cell_at : Binds K t.d__law_cell_at ["_law_script", "_law_k"] []
  F__law_window : Fun K "_law_window" "_law_window" s__law_window t.a__law_window t.d__law_window
  m__law_window : mg "_law_window" = some (.ref t.a__law_window)
  B__law_window : Binds K t.d__law_window ["_law_cell", "_law_turn"] []
  F__law_stream : Fun K "_law_stream" "_law_stream" s__law_stream t.a__law_stream t.d__law_stream
  m__law_stream : mg "_law_stream" = some (.ref t.a__law_stream)
  B__law_stream : Binds K t.d__law_stream ["_law_cell", "_law_many"] []
  F__law_names : Fun K "_law_names" "_law_names" s__law_names t.a__law_names t.d__law_names
  m__law_names : mg "_law_names" = some (.ref t.a__law_names)
  B__law_names : Binds K t.d__law_names ["_law_cell", "_law_many"] []
  F__law_number : Fun K "_law_number" "_law_number" s__law_number t.a__law_number t.d__law_number
  m__law_number : mg "_law_number" = some (.ref t.a__law_number)
  B__law_number : Binds K t.d__law_number ["_law_cell", "_law_mixed", "_law_least"] []
  F__law_add : Fun K "_law_add" "_law_add" s__law_add t.a__law_add t.d__law_add
  m__law_add : mg "_law_add" = some (.ref t.a__law_add)
  B__law_add : Binds K t.d__law_add ["_law_room_here", "_law_form", "_law_hands", "_law_long"] []
  F__law_simple : Fun K "_law_simple" "_law_simple" s__law_simple t.a__law_simple t.d__law_simple
  m__law_simple : mg "_law_simple" = some (.ref t.a__law_simple)
  B__law_simple : Binds K t.d__law_simple ["_law_room_here", "_law_cell", "_law_some"] []
  F__law_there : Fun K "_law_there" "_law_there" s__law_there t.a__law_there t.d__law_there
  m__law_there : mg "_law_there" = some (.ref t.a__law_there)
  B__law_there : Binds K t.d__law_there ["_law_room_here", "_law_number_here"] []
  F__law_apart : Fun K "_law_apart" "_law_apart" s__law_apart t.a__law_apart t.d__law_apart
  m__law_apart : mg "_law_apart" = some (.ref t.a__law_apart)
  B__law_apart : Binds K t.d__law_apart ["_law_room_here", "_law_some"] []
  F__law_naming : Fun K "_law_naming" "_law_naming" s__law_naming t.a__law_naming t.d__law_naming
  m__law_naming : mg "_law_naming" = some (.ref t.a__law_naming)
  B__law_naming : Binds K t.d__law_naming ["_law_room_here", "_law_cell", "_law_some"] []
  F__law_room : Fun K "_law_room" "_law_room" s__law_room t.a__law_room t.d__law_room
  m__law_room : mg "_law_room" = some (.ref t.a__law_room)
  B__law_room : Binds K t.d__law_room ["_law_script"] []
  F__law_rows : Fun K "_law_rows" "_law_rows" s__law_rows t.a__law_rows t.d__law_rows
  m__law_rows : mg "_law_rows" = some (.ref t.a__law_rows)
  B__law_rows : Binds K t.d__law_rows ["_law_book"] []
  F__law_alike : Fun K "_law_alike" "_law_alike" s__law_alike t.a__law_alike t.d__law_alike
  m__law_alike : mg "_law_alike" = some (.ref t.a__law_alike)
  B__law_alike : Binds K t.d__law_alike ["_law_found", "_law_due"] []
  F_law : Fun K "law" "law" s_law t.a_law t.d_law
  m_law : mg "law" = some (.ref t.a_law)
  B_law : Binds K t.d_law ["_law_script"] []
  b_all : mg "all" = none
  b_bool : mg "bool" = none
  b_enumerate : mg "enumerate" = none
  b_int : mg "int" = none
  b_isinstance : mg "isinstance" = none
  b_len : mg "len" = none
  b_list : mg "list" = none
  b_max : mg "max" = none
  b_min : mg "min" = none
  b_range : mg "range" = none
  b_set : mg "set" = none
  b_sorted : mg "sorted" = none
  b_str : mg "str" = none
  b_sum : mg "sum" = none
  b_tuple : mg "tuple" = none
  b_zip : mg "zip" = none
  c_FEWEST_NAMES : mg "FEWEST_NAMES" = some (.ref t.u_FEWEST_NAMES)
  k_FEWEST_NAMES : TabK K t.u_FEWEST_NAMES [("row", .flat (.int 1)), ("side", .flat (.int 2))]
  c_FIGURES : mg "FIGURES" = some t.u_FIGURES
  r_FIGURES : RelV (.str "0123456789") t.u_FIGURES
  c_FORMS : mg "FORMS" = some (.ref t.u_FORMS)
  k_FORMS : TabK K t.u_FORMS [("raise", .tup [.str "limb", .str "height", .str "beats"]), ("hold", .tup [.str "beats"]), ("ring", .tup [.str "word", .str "beats"]), ("again", .tup [.str "times", .str "part"])]
  c_LETTERS : mg "LETTERS" = some t.u_LETTERS
  r_LETTERS : RelV (.str "abcdefghijklmnopqrstuvwxyz") t.u_LETTERS
  c_MOST_NAMES : mg "MOST_NAMES" = some (.ref t.u_MOST_NAMES)
  k_MOST_NAMES : TabK K t.u_MOST_NAMES [("row", .flat (.int 8)), ("side", .flat (.int 4))]
section
variable {P : Program} {w : World} {K : PySem.W.Frag} {mg : Str → Option Value} {base : Heap} {t : Ad}
theorem ok_numbers_of (T : Txt K mg t) : FnOk P w K mg base CX0 1 t.a_numbers_of t.d_numbers_of ["named"] (Rm.sp_numbers_of) := by
  refine T.F_numbers_of.ok sc_numbers_of (fun vs H Q E h => ?_) (fun cdv A outer s H vs Q E hr h => ?_)
  · obtain ⟨l, as, xs, rfl, el, hl, ha, nd, h100, q⟩ := h
    rfl
  obtain ⟨l, as, xs, rfl, el, hl, ha, nd, h100, q⟩ := h
  refine ⟨_, (pss_cons (ps_set (i := 1) sc_numbers_of.nd rfl (.inl rfl) pe_dnewK)
    (pss_cons (ps_for PassesOwn.never rfl (pi_enum (by rfl) T.b_enumerate (pa_cons (pv 0) pa_nil)) (pg_tup rfl (pgs_cons (pg_name (i := 2) sc_numbers_of.nd rfl (.inl rfl)) (pgs_cons (pg_name (i := 3) sc_numbers_of.nd rfl (.inl rfl)) pgs_nil)))
      (pss_one (ps_dput (hu_of hr) (pv 1) (pe_ix ix_tup (pv 3) pe_int (fun _ _ => rfl)) (pv 2) rfl)))
    (pss_one (ps_ret (pv 1))))), ?_⟩
  refine rd_start (σ' := [some _, none, none, none]) rfl ?_
  have sz : (200 : Nat) < sizeLine := by decide
  walk_at "go"
  intro d hd; generalize eH : L2.upd _ d _ = H1; have s1 := L2.same_of hd eH; have t1 := L2.at_of eH; clear eH
  walk_at "go"
  refine ⟨l, _, rfl, SqL.of (s1 _ _ el), ?_⟩
  refine for_enum (xs := as.map V.ref) (fun i σ H' => ∃ o2 o3 : Option V, σ = [some (.ref l), some (.ref d), o2, o3] ∧ Same H H' ∧ H' d = some (.dK (Rm.numK (xs.take i)))) ⟨_, _, rfl, s1, t1⟩ ?_ ?_ ?_
  · rintro i σ H' _ ⟨o2, o3, rfl, sm, ed⟩
    exact SqL.of (sm _ _ el)
  · rintro i v σ H' P H'' hx ⟨o2, o3, rfl, sm, ed⟩ sP tP
    rw [List.getElem?_map] at hx
    obtain ⟨a, ea, rfl⟩ := Option.map_eq_some_iff.mp hx
    have hi := (List.getElem?_eq_some_iff.mp ea).1
    have ex : xs[i]? = some xs[i] := List.getElem?_eq_getElem (by omega)
    obtain ⟨r, er⟩ := ha i a _ ea ex
    have s2 := sm.trans sP
    have tl : (xs.take i).length = i := by rw [List.length_take]; omega
    refine rd_gT2 (SqT.of tP) ?_
    walk_at "go"
    refine ⟨a, _, _, _, rfl, rfl, SqT.of (s2 _ _ er), rfl, ?_⟩
    refine ⟨d, _, rfl, DPut.k (k := Sum.inr xs[i]) (sP _ _ ed) (by rw [Rm.numK_len, tl]; omega), ?_⟩
    have hk : (Sum.inr xs[i] : Key) ∉ (Rm.numK (xs.take i)).map (·.1) := fun z => by
      rw [Rm.numK_keys] at z
      obtain ⟨y, hy, e⟩ := List.mem_map.mp z
      have e' : y = xs[i] := Sum.inr.inj e
      subst e'
      obtain ⟨j, hj, e⟩ := List.mem_iff_getElem.mp hy
      rw [List.getElem_take] at e
      rw [tl] at hj
      exact absurd e (List.pairwise_iff_getElem.mp nd j i (by omega) (by omega) hj)
    refine ⟨_, _, rfl, fun b u h => (upd_ne (ne_of_none h hd)).trans (s2 _ _ h), ?_⟩
    rw [upd_same, Rm.putK_new hk, Rm.take_snoc ex, Rm.numK_snoc, tl]
  rintro σ' H' ⟨o2, o3, rfl, sm, ed⟩
  rw [List.length_map, hl, List.take_length] at ed
  walk_at "go"
  exact q d H' sm hd ed
theorem ok_all_among (T : Txt K mg t) : FnOk P w K mg base CX0 1 t.a_all_among t.d_all_among ["text", "signs"] (Ws.sp_all_among) := by
  refine T.F_all_among.ok sc_all_among (fun vs H Q E h => ?_) (fun cdv A outer s H vs Q E hr h => ?_)
  · obtain ⟨x, z, rfl, hx, q⟩ := h
    rfl
  obtain ⟨x, z, rfl, hx, q⟩ := h
  refine ⟨_, (pss_one (ps_ret (pe_callB (call_allB rfl) (by rfl) T.b_all bt_all (pa_cons (pe_comp (ow := ["sign"]) (ci := [1]) rfl (CompScope.of (defScope s_all_among) ["text", "signs"] rfl rfl (by decide +kernel)) (gk_name (by decide)) (pi_str (pv 0)) (fun _ _ _ _ _ => ⟨(pg_name (i := 0) (blk_nd ["text", "signs"] rfl (by decide +kernel)) rfl (.inl rfl)), pf_nil, (pe_cmpR op_in1 (pv 0) (pv 1) (by with_unfolding_all rfl))⟩)) pa_nil)))), ?_⟩
  refine rd_start (σ' := [some _, some _]) rfl ?_
  have sz : (200 : Nat) < sizeLine := by decide
  have hlen := Ws.len_is x
  have hsz : x.cps.size = x.length := rfl
  walk_at "go"
  refine comp_str (fun i ys H' => ys = ((x.cps.toList.take i).map fun c => V.bl (decide (c ∈ z.cps.toList))) ∧ H = H') ⟨rfl, rfl⟩ ?_ ?_
  · rintro i c ys H' hc ⟨rfl, rfl⟩
    have hc' : x.cps.toList[i]? = some c := by rw [Array.getElem?_toList]; exact hc
    refine rd_cap (σ' := [none, some _]) rfl ?_
    walk_at "go"
    refine iteT ?_
    walk_at "go"
    refine ⟨_, _, rfl, rfl, ?_⟩
    refine ⟨by rw [List.length_map, List.length_take]; omega, ?_, rfl⟩
    rw [List.take_add_one, hc', List.map_append]
    rfl
  · rintro ys H' ⟨rfl, rfl⟩
    have e : x.cps.toList.take x.cps.size = x.cps.toList := List.take_of_length_le (by omega)
    rw [e]
    refine ⟨by rw [List.length_map]; omega, fun p hp => ?_⟩
    walk_at "go"
    refine ⟨p, x.cps.toList.map fun c => decide (c ∈ z.cps.toList), rfl, SqL.of (by rw [upd_same, List.map_map]; rfl), ?_⟩
    have e2 : (x.cps.toList.map fun c => decide (c ∈ z.cps.toList)).all id = Ws.among x z := by
      unfold Ws.among
      rw [Bool.eq_iff_iff, List.all_eq_true, decide_eq_true_iff]
      constructor
      · intro h c hc
        exact of_decide_eq_true (h _ (List.mem_map.mpr ⟨c, hc, rfl⟩))
      · intro h b hb
        obtain ⟨c, hc, rfl⟩ := List.mem_map.mp hb
        exact decide_eq_true (h c hc)
    rw [e2]
    exact q _ (Pr.same_new hp _)
theorem ok_is_word (T : Txt K mg t) (G_all_among : FnOk P w K mg base CX0 1 t.a_all_among t.d_all_among ["text", "signs"] (Ws.sp_all_among)) : FnOk P w K mg base CX0 2 t.a_is_word t.d_is_word ["text"] (Ws.sp_is_word) := by
  refine T.F_is_word.ok sc_is_word (fun vs H Q E h => ?_) (fun cdv A outer s H vs Q E hr h => ?_)
  · obtain ⟨x, rfl, hx, q⟩ := h
    rfl
  obtain ⟨x, rfl, hx, q⟩ := h
  refine ⟨_, (pss_one (ps_ret (pe_and (pe_chain op_le op_le pe_int (pe_callB call_len (by rfl) T.b_len bt_len (pa_cons (pv 0) pa_nil)) pe_int) (pe_one (pe_call (G_all_among.mono (by decide)) hr (by rfl) T.m_all_among T.F_all_among.kp T.B_all_among .nil pass0 (pa_cons (pv 0) (pa_cons (pe_glob (by rfl) T.c_LETTERS T.r_LETTERS) pa_nil))))))), ?_⟩
  refine rd_start (σ' := [some _]) rfl ?_
  have sz : (200 : Nat) < sizeLine := by decide
  walk_at "go"
  refine ⟨_, _, rfl, ⟨by omega, rfl⟩, ?_⟩
  walk_at "go"
  refine iteD (fun c1 => ?_) (fun c1 => ?_)
  · walk_at "go"
    refine iteD (fun c2 => ?_) (fun c2 => ?_)
    · walk_at "go"
      refine ⟨_, _, rfl, hx, fun H' g => ?_⟩
      have e : Ws.isW x = Ws.among x Ws.lets := by
        unfold Ws.isW
        rw [decide_eq_true (show 1 ≤ x.length ∧ x.length ≤ 8 by omega), Bool.true_and]
      have q' := q H' g
      rw [e] at q'
      exact q'
    · have e : Ws.isW x = false := by
        unfold Ws.isW
        rw [decide_eq_false (show ¬ (1 ≤ x.length ∧ x.length ≤ 8) by omega), Bool.false_and]
      have q' := q H (Same.refl _)
      rw [e] at q'
      exact q'
  · walk_at "go"
    refine iteF ?_
    have e : Ws.isW x = false := by
      unfold Ws.isW
      rw [decide_eq_false (show ¬ (1 ≤ x.length ∧ x.length ≤ 8) by omega), Bool.false_and]
    have q' := q H (Same.refl _)
    rw [e] at q'
    exact q'
theorem ok_number_of (T : Txt K mg t) (G_all_among : FnOk P w K mg base CX0 1 t.a_all_among t.d_all_among ["text", "signs"] (Ws.sp_all_among)) : FnOk P w K mg base CX0 2 t.a_number_of t.d_number_of ["text", "most"] (Ws.sp_number_of) := by
  refine T.F_number_of.ok sc_number_of (fun vs H Q E h => ?_) (fun cdv A outer s H vs Q E hr h => ?_)
  · obtain ⟨x, m, rfl, hx, q⟩ := h
    rfl
  obtain ⟨x, m, rfl, hx, q⟩ := h
  refine ⟨_, (pss_cons (ps_if (PW.pt (pw_or (pt_not (pt_chain op_le op_le pe_int (pe_callB call_len (by rfl) T.b_len bt_len (pa_cons (pv 0) pa_nil)) (pv 1))) (pw_or1 (pt_not (pt_val (pe_call (G_all_among.mono (by decide)) hr (by rfl) T.m_all_among T.F_all_among.kp T.B_all_among .nil pass0 (pa_cons (pv 0) (pa_cons (pe_glob (by rfl) T.c_FIGURES T.r_FIGURES) pa_nil))))))))
      (pss_one (ps_ret pe_non))
      pss_nil)
    (pss_cons (ps_if (PW.pt (pw_and (pt_cmpR op_eq (pe_ix ix_str (pv 0) pe_int (fun _ _ => rfl)) pe_str (nomark _)) (pw_and1 (pt_cmpR op_ne (pv 0) pe_str (nomark _)))))
      (pss_one (ps_ret pe_non))
      pss_nil)
    (pss_one (ps_ret (pe_callTy call_intS (by rfl) T.b_int bt_int (pa_cons (pv 0) pa_nil)))))), ?_⟩
  refine rd_start (σ' := [some _, some _]) rfl ?_
  have sz : (200 : Nat) < sizeLine := by decide
  have no : ∀ H', Same H H' → ¬ ((1 ≤ x.length ∧ (x.length : Int) ≤ m) ∧ Ws.among x Ws.figs = true ∧ ¬ (x.cps.toList.head? = some 48 ∧ x.length ≠ 1)) → Q .non H' := fun H' g h => by
    have q' := q H' g
    rw [Ws.numV_no h] at q'
    exact q'
  walk_at "go"
  refine ⟨_, _, rfl, ⟨by omega, rfl⟩, ?_⟩
  walk_at "go"
  refine iteD (fun c1 => ?_) (fun c1 => ?_)
  · walk_at "go"
    refine iteN (fun c2 => ?_) (fun c2 => ?_)
    · walk_at "go"
      exact no _ (Same.refl _) (fun h => by omega)
    walk_at "go"
    refine ⟨_, _, rfl, hx, fun H' g => ?_⟩
    walk_at "go"
    cases ha : Ws.among x Ws.figs with
    | false =>
      have ha' : Ws.among x "0123456789" = false := ha
      rw [ha']
      refine iteT ?_
      walk_at "go"
      exact no _ g (fun h => by rw [ha] at h; exact absurd h.2.1 Bool.false_ne_true)
    | true =>
      have ha' : Ws.among x "0123456789" = true := ha
      rw [ha']
      refine iteF ?_
      walk_at "go"
      obtain ⟨c, r, er, e0⟩ := Ws.head_at (x := x) (by omega)
      have eh : x.cps.toList.head? = some c := by rw [er]; rfl
      refine ⟨x, 0, c, rfl, rfl, by omega, e0, ?_⟩
      walk_at "go"
      have last : ¬ (x.cps.toList.head? = some 48 ∧ x.length ≠ 1) → Q (.int (NumText.digitsVal x.cps.toList : Nat)) H' := fun h => by
        have q' := q H' g
        rw [Ws.numV_yes ⟨by omega, ha, h⟩] at q'
        exact q'
      refine iteD (fun c3 => ?_) (fun c3 => ?_)
      · have c48 := Ws.sign_eq.mp c3
        subst c48
        walk_at "go"
        refine iteN (fun c4 => ?_) (fun c4 => ?_)
        · walk_at "go"
          exact no _ g (fun h => h.2.2 ⟨eh, fun z => c4 ((Ws.zero_eq eh).mpr z)⟩)
        · walk_at "go"
          exact ⟨_, _, rfl, Ws.intText ha (by omega) hx, by omega, last (fun h => h.2 ((Ws.zero_eq eh).mp c4))⟩
      · refine iteF ?_
        walk_at "go"
        exact ⟨_, _, rfl, Ws.intText ha (by omega) hx, by omega, last (fun h => c3 (Ws.sign_eq.mpr (by rw [eh] at h; exact Option.some.inj h.1)))⟩
  · walk_at "go"
    refine iteT ?_
    walk_at "go"
    exact no _ (Same.refl _) (fun h => by omega)
theorem ok_bounded (T : Txt K mg t) (G_number_of : FnOk P w K mg base CX0 2 t.a_number_of t.d_number_of ["text", "most"] (Ws.sp_number_of)) : FnOk P w K mg base CX0 3 t.a_bounded t.d_bounded ["text", "least"] (Rm.sp_bounded) := by
  refine T.F_bounded.ok sc_bounded (fun vs H Q E h => ?_) (fun cdv A outer s H vs Q E hr h => ?_)
  · obtain ⟨n, least, rfl, n0, n1, hl, q⟩ := h
    rfl
  obtain ⟨n, least, rfl, n0, n1, hl, q⟩ := h
  refine ⟨_, (pss_cons (ps_set (i := 2) sc_bounded.nd rfl (.inl rfl) (pe_call (G_number_of.mono (by decide)) hr (by rfl) T.m_number_of T.F_number_of.kp T.B_number_of .nil pass0 (pa_cons (pv 0) (pa_cons pe_int pa_nil))))
    (pss_cons (ps_if (PW.pt (pw_or (pt_cmpR op_isN (pv 2) pe_non (nomark _)) (pw_or1 (pt_not (pt_chain op_le op_le (pv 1) (pv 2) (pe_op op_pow pe_int pe_int))))))
      (pss_one (ps_ret pe_non))
      pss_nil)
    (pss_one (ps_ret (pv 2))))), ?_⟩
  refine rd_start (σ' := [some _, some _, none]) rfl ?_
  have ln := Rm.tI_len n0 n1
  walk_at "go"
  refine ⟨Rm.tI n, 19, rfl, by omega, fun H1 s1 => ?_⟩
  rw [Nm.num_back n0 n1]
  walk_at "go"
  refine ⟨rfl, _, rfl, ?_⟩
  refine Rm.iteB0 (by simp) ?_
  walk_at "go"
  refine iteD (fun _ => ?_) (fun c => absurd hl c)
  walk_at "go"
  refine iteN (fun z => absurd n1 z) (fun _ => ?_)
  walk_at "go"
  exact q _ s1
theorem ok_value_of (T : Txt K mg t) (G_is_word : FnOk P w K mg base CX0 2 t.a_is_word t.d_is_word ["text"] (Ws.sp_is_word)) (G_bounded : FnOk P w K mg base CX0 3 t.a_bounded t.d_bounded ["text", "least"] (Rm.sp_bounded)) : FnOk P w K mg base CX0 4 t.a_value_of t.d_value_of ["wanted", "text", "limbs", "parts"] (Rm.sp_value_of) := by
  refine T.F_value_of.ok sc_value_of (fun vs H Q E h => ?_) (fun cdv A outer s H vs Q E hr h => ?_)
  · obtain ⟨wanted, text, d1, d2, k1, k2, r, rfl, e1, e2, ok, q⟩ := h
    rfl
  obtain ⟨wanted, text, d1, d2, k1, k2, r, rfl, e1, e2, ok, q⟩ := h
  refine ⟨_, (pss_cons (ps_if (pt_cmpR op_eq (pv 0) pe_str (nomark _))
      (pss_one (ps_ret (pe_call (G_bounded.mono (by decide)) hr (by rfl) T.m_bounded T.F_bounded.kp T.B_bounded .nil pass0 (pa_cons (pv 1) (pa_cons pe_int pa_nil)))))
      pss_nil)
    (pss_cons (ps_if (pt_cmpR op_in_seq (pv 0) (pe_tup (pa_cons pe_str (pa_cons pe_str pa_nil))) (by with_unfolding_all rfl))
      (pss_one (ps_ret (pe_call (G_bounded.mono (by decide)) hr (by rfl) T.m_bounded T.F_bounded.kp T.B_bounded .nil pass0 (pa_cons (pv 1) (pa_cons pe_int pa_nil)))))
      pss_nil)
    (pss_cons (ps_if (pt_cmpR op_eq (pv 0) pe_str (nomark _))
      (pss_one (ps_ret (pe_ifExp (pt_val (pe_call (G_is_word.mono (by decide)) hr (by rfl) T.m_is_word T.F_is_word.kp T.B_is_word .nil pass0 (pa_cons (pv 1) pa_nil))) (pv 1) pe_non)))
      pss_nil)
    (pss_cons (ps_set (i := 4) sc_value_of.nd rfl (.inl rfl) (pe_ifExp (pt_cmpR op_eq (pv 0) pe_str (nomark _)) (pv 2) (pv 3)))
    (pss_one (ps_ret (pe_ifExp (pt_cmp (pc_din (hu_of hr) (pv 1) (pv 4))) (pv 1) pe_non))))))), ?_⟩
  refine rd_start (σ' := [some _, some _, some _, some _, none]) rfl ?_
  have sz : (200 : Nat) < sizeLine := by decide
  rcases ok with ⟨rfl, n, rfl, n0, n1, rfl⟩ | ⟨hw, n, rfl, n0, n1, rfl⟩ | ⟨rfl, hw, hl, rfl⟩ | ⟨rfl, hs, rfl⟩ | ⟨rfl, hs, rfl⟩
  · walk_at "go"
    refine Rm.iteB1 (by decide +kernel) ?_
    walk_at "go"
    exact ⟨n, 0, rfl, n0, n1, n0, fun H1 s1 => q _ s1⟩
  · have key : ∀ x : Str, x = "beats" ∨ x = "times" → decide (x = ("height" : Str)) = false ∧ inV (.str x) [.str "beats", .str "times"] = true := fun x h => by
      rcases h with rfl | rfl <;> exact ⟨by decide +kernel, by decide +kernel⟩
    obtain ⟨c1, c2⟩ := key wanted hw
    walk_at "go"
    refine Rm.iteB0 c1 ?_
    walk_at "go"
    refine ⟨(by show 2 ≤ sizeLine; omega), ?_⟩
    intro p hp; generalize eH : L2.upd _ p _ = H1; have s1 := L2.same_of hp eH; have t1 := L2.at_of eH; clear eH
    refine ⟨p, _, rfl, .inr (SqT.of t1), rfl, rfl, ?_⟩
    walk_at "go"
    refine Rm.iteB1 c2 ?_
    walk_at "go"
    exact ⟨n, 1, rfl, by omega, n1, n0, fun H2 s2 => q _ (s1.trans s2)⟩
  · walk_at "go"
    refine Rm.iteB0 (by decide +kernel) ?_
    walk_at "go"
    refine ⟨(by show 2 ≤ sizeLine; omega), ?_⟩
    intro p hp; generalize eH : L2.upd _ p _ = H1; have s1 := L2.same_of hp eH; have t1 := L2.at_of eH; clear eH
    refine ⟨p, _, rfl, .inr (SqT.of t1), rfl, rfl, ?_⟩
    walk_at "go"
    refine Rm.iteB0 (by decide +kernel) ?_
    walk_at "go"
    refine Rm.iteB1 (by decide +kernel) ?_
    walk_at "go"
    refine ⟨text, rfl, hl, fun H2 s2 => ?_⟩
    rw [hw]
    walk_at "go"
    refine iteT ?_
    walk_at "go"
    exact q _ (s1.trans s2)
  · walk_at "go"
    refine Rm.iteB0 (by decide +kernel) ?_
    walk_at "go"
    refine ⟨(by show 2 ≤ sizeLine; omega), ?_⟩
    intro p hp; generalize eH : L2.upd _ p _ = H1; have s1 := L2.same_of hp eH; have t1 := L2.at_of eH; clear eH
    refine ⟨p, _, rfl, .inr (SqT.of t1), rfl, rfl, ?_⟩
    walk_at "go"
    refine Rm.iteB0 (by decide +kernel) ?_
    walk_at "go"
    refine Rm.iteB0 (by decide +kernel) ?_
    walk_at "go"
    refine Rm.iteB1 (by decide +kernel) ?_
    walk_at "go"
    refine ⟨d1, _, rfl, DGet.k (k := Sum.inr text) (s1 _ _ e1), ?_⟩
    walk_at "go"
    refine Rm.iteB1 hs ?_
    walk_at "go"
    exact q _ s1
  · walk_at "go"
    refine Rm.iteB0 (by decide +kernel) ?_
    walk_at "go"
    refine ⟨(by show 2 ≤ sizeLine; omega), ?_⟩
    intro p hp; generalize eH : L2.upd _ p _ = H1; have s1 := L2.same_of hp eH; have t1 := L2.at_of eH; clear eH
    refine ⟨p, _, rfl, .inr (SqT.of t1), rfl, rfl, ?_⟩
    walk_at "go"
    refine Rm.iteB0 (by decide +kernel) ?_
    walk_at "go"
    refine Rm.iteB0 (by decide +kernel) ?_
    walk_at "go"
    refine Rm.iteB0 (by decide +kernel) ?_
    walk_at "go"
    refine ⟨d2, _, rfl, DGet.k (k := Sum.inr text) (s1 _ _ e2), ?_⟩
    walk_at "go"
    refine Rm.iteB1 hs ?_
    walk_at "go"
    exact q _ s1
theorem ok_names_form (T : Txt K mg t) : FnOk P w K mg base CX0 1 t.a_names_form t.d_names_form ["kind", "words", "parts"] (Rm.sp_names_form) := by
  refine T.F_names_form.ok sc_names_form (fun vs H Q E h => ?_) (fun cdv A outer s H vs Q E hr h => ?_)
  · obtain ⟨kind, l, d, ws, kvs, rfl, mk, el, ed, hk, q⟩ := h
    rfl
  obtain ⟨kind, l, d, ws, kvs, rfl, mk, el, ed, hk, q⟩ := h
  refine ⟨_, (pss_cons (ps_if (pt_not (pt_chain op_le op_le (pe_ix ix_tabI (pe_glob (v := .ref t.u_FEWEST_NAMES) (by rfl) T.c_FEWEST_NAMES rfl) (pv 0) (fun _ _ => rfl)) (pe_callB call_len (by rfl) T.b_len bt_len (pa_cons (pv 1) pa_nil)) (pe_ix ix_tabI (pe_glob (v := .ref t.u_MOST_NAMES) (by rfl) T.c_MOST_NAMES rfl) (pv 0) (fun _ _ => rfl))))
      (pss_one (ps_ret pe_non))
      pss_nil)
    (pss_cons (ps_if (pt_not (pt_val (pe_callB (call_allB rfl) (by rfl) T.b_all bt_all (pa_cons (pe_comp (ow := ["word"]) (ci := [2]) rfl (CompScope.of (defScope s_names_form) ["kind", "words", "parts"] rfl rfl (by decide +kernel)) (gk_name (by decide)) (pi_list (pv 1)) (fun _ _ _ _ _ => ⟨(pg_name (i := 0) (blk_nd ["kind", "words", "parts"] rfl (by decide +kernel)) rfl (.inl rfl)), pf_nil, (pe_cmp (pc_din (hu_of hr) (pv 0) (pv 1)))⟩)) pa_nil))))
      (pss_one (ps_ret pe_non))
      pss_nil)
    (pss_one (ps_ret (pe_tup (pa_cons (pv 0) (pa_cons (pe_callTy call_tuple_of (by rfl) T.b_tuple bt_tuple (pa_cons (pv 1) pa_nil)) pa_nil))))))), ?_⟩
  refine rd_start (σ' := [some _, some _, some _]) rfl ?_
  have sz : (200 : Nat) < sizeLine := by decide
  obtain ⟨lo, hi, t1, t2, b1, b2, b8⟩ := mk.tabs
  walk_at "go"
  refine ⟨_, kind, _, lo, rfl, rfl, T.k_FEWEST_NAMES, t1, ?_⟩
  walk_at "go"
  refine ⟨_, _, rfl, .inl ⟨_, SqL.of el, rfl⟩, ?_⟩
  rw [List.length_map]
  walk_at "go"
  refine iteD (fun _ => ?_) (fun c => absurd b1 c)
  walk_at "go"
  refine ⟨_, kind, _, hi, rfl, rfl, T.k_MOST_NAMES, t2, ?_⟩
  walk_at "go"
  refine iteN (fun z => absurd b2 z) (fun _ => ?_)
  walk_at "go"
  refine ⟨l, rfl, ⟨_, SqL.of el⟩, ?_⟩
  refine comp_list (xs := ws.map V.str) (fun i ys H' => ys = (List.replicate i true).map V.bl ∧ H = H') ⟨rfl, rfl⟩ ?_ ?_ ?_
  · rintro i ys H' _ ⟨rfl, rfl⟩
    exact SqL.of el
  · rintro i v ys H' hv ⟨rfl, rfl⟩
    rw [List.getElem?_map] at hv
    obtain ⟨x, hx, rfl⟩ := Option.map_eq_some_iff.mp hv
    have hi := (List.getElem?_eq_some_iff.mp hx).1
    refine rd_cap (σ' := [none, some _]) rfl ?_
    walk_at "go"
    refine iteT ?_
    walk_at "go"
    refine ⟨d, _, rfl, DGet.k (k := Sum.inr x) ed, ?_⟩
    rw [hk x (List.mem_of_getElem? hx)]
    refine ⟨by rw [List.length_map, List.length_replicate]; omega, ?_, rfl⟩
    rw [List.replicate_succ', List.map_append]
    rfl
  rintro ys H' ⟨rfl, rfl⟩
  refine ⟨by rw [List.length_map, List.length_replicate, List.length_map]; omega, ?_⟩
  intro p hp; generalize eH : L2.upd _ p _ = H1; have s1 := L2.same_of hp eH; have e1 := L2.at_of eH; clear eH
  walk_at "go"
  refine ⟨p, _, rfl, SqL.of e1, ?_⟩
  rw [show (List.replicate (ws.map V.str).length true).all id = true by simp]
  walk_at "go"
  refine iteF ?_
  walk_at "go"
  refine ⟨l, _, rfl, .inl ⟨SqL.of (s1 _ _ el), ?_⟩⟩
  intro p2 hp2; generalize eH : L2.upd _ p2 _ = H2; have s2 := L2.same_of hp2 eH; have e2 := L2.at_of eH; clear eH
  walk_at "go"
  refine ⟨(by show 2 ≤ sizeLine; omega), ?_⟩
  intro p3 hp3; generalize eH : L2.upd _ p3 _ = H3; have s3 := L2.same_of hp3 eH; have e3 := L2.at_of eH; clear eH
  exact q p3 p2 H3 (s1.trans (s2.trans s3)) e3 (s3 _ _ e2)
theorem ok_form_of (T : Txt K mg t) (G_value_of : FnOk P w K mg base CX0 4 t.a_value_of t.d_value_of ["wanted", "text", "limbs", "parts"] (Rm.sp_value_of)) (G_names_form : FnOk P w K mg base CX0 1 t.a_names_form t.d_names_form ["kind", "words", "parts"] (Rm.sp_names_form)) : FnOk P w K mg base CX0 5 t.a_form_of t.d_form_of ["kind", "words", "limbs", "parts"] (Rm.sp_form_of) := by
  refine T.F_form_of.ok sc_form_of (fun vs H Q E h => ?_) (fun cdv A outer s H vs Q E hr h => ?_)
  · obtain ⟨f, kind, ws, l, d1, d2, k1, k2, rfl, ef, el, e1, e2, ok, q⟩ := h
    rfl
  obtain ⟨f, kind, ws, l, d1, d2, k1, k2, rfl, ef, el, e1, e2, ok, q⟩ := h
  refine ⟨_, (pss_cons (ps_if (pt_cmpR op_inT (pv 0) (pe_glob (v := .ref t.u_MOST_NAMES) (by rfl) T.c_MOST_NAMES rfl) (by with_unfolding_all rfl))
      (pss_one (ps_ret (pe_call (G_names_form.mono (by decide)) hr (by rfl) T.m_names_form T.F_names_form.kp T.B_names_form .nil pass0 (pa_cons (pv 0) (pa_cons (pv 1) (pa_cons (pv 3) pa_nil))))))
      pss_nil)
    (pss_cons (ps_if (PW.pt (pw_or (pt_cmpR op_notInT (pv 0) (pe_glob (v := .ref t.u_FORMS) (by rfl) T.c_FORMS rfl) (by with_unfolding_all rfl)) (pw_or1 (pt_cmpR op_ne (pe_callB call_len (by rfl) T.b_len bt_len (pa_cons (pv 1) pa_nil)) (pe_callB call_len (by rfl) T.b_len bt_len (pa_cons (pe_ix ix_tabT (pe_glob (v := .ref t.u_FORMS) (by rfl) T.c_FORMS rfl) (pv 0) (fun _ _ => rfl)) pa_nil)) (nomark _)))))
      (pss_one (ps_ret pe_non))
      pss_nil)
    (pss_cons (ps_setC (i := 4) (ow := ["wanted", "word"]) (ci := [2, 3]) rfl (CompScope.of (defScope s_form_of) ["kind", "words", "limbs", "parts", "values"] rfl rfl (by decide +kernel)) (gk_tup2 (by decide) (by decide)) sc_form_of.nd rfl (.inl rfl) (pi_zipT (by rfl) T.b_zip (pa_cons (pe_ix ix_tabT (pe_glob (v := .ref t.u_FORMS) (by rfl) T.c_FORMS rfl) (pv 0) (fun _ _ => rfl)) (pa_cons (pv 1) pa_nil))) (fun _ _ _ _ _ => ⟨(pg_tup rfl (pgs_cons (pg_name (i := 0) (blk_nd ["kind", "words", "limbs", "parts", "values"] rfl (by decide +kernel)) rfl (.inl rfl)) (pgs_cons (pg_name (i := 1) (blk_nd ["kind", "words", "limbs", "parts", "values"] rfl (by decide +kernel)) rfl (.inl rfl)) pgs_nil))), pf_nil, (pe_call (G_value_of.mono (by decide)) hr (by rfl) T.m_value_of T.F_value_of.kp T.B_value_of .nil pass0 (pa_cons (pv 0) (pa_cons (pv 1) (pa_cons (pv 2) (pa_cons (pv 3) pa_nil)))))⟩))
    (pss_one (ps_ret (pe_ifExp (pt_cmpR op_in_seq pe_non (pv 4) (by with_unfolding_all rfl)) pe_non (pe_op op_catT (pe_tup (pa_cons (pv 0) pa_nil)) (pe_callTy call_tuple_of (by rfl) T.b_tuple bt_tuple (pa_cons (pv 4) pa_nil))))))))), ?_⟩
  refine rd_start (σ' := [some _, some _, some _, some _, none]) rfl ?_
  have sz : (200 : Nat) < sizeLine := by decide
  rcases Rm.form_kinds ok ef with ⟨hk, mk, hn, mf⟩ | ⟨hk, hk2, wants, rs, O⟩
  · walk_at "go"
    refine ⟨_, _, _, rfl, rfl, T.k_MOST_NAMES, ?_⟩
    walk_at "go"
    refine Rm.iteB1 hk ?_
    walk_at "go"
    exact ⟨kind, l, d2, ws, k2, rfl, mk, el, e2, hn, fun p b H1 s1 t1 t2 => q p H1 s1 (mf _ _ _ t1 t2)⟩
  · obtain ⟨la, lr⟩ := O.v.len
    have l3 := O.l
    walk_at "go"
    refine ⟨_, _, _, rfl, rfl, T.k_MOST_NAMES, ?_⟩
    walk_at "go"
    refine Rm.iteB0 hk ?_
    walk_at "go"
    refine ⟨_, _, _, rfl, rfl, T.k_FORMS, ?_⟩
    walk_at "go"
    refine Rm.iteB0 (by show (!PyProof.Rows.KTD.inKeys kind Rm.FT) = false; rw [hk2]; rfl) ?_
    walk_at "go"
    refine ⟨_, _, rfl, .inl ⟨_, SqL.of el, rfl⟩, ?_⟩
    walk_at "go"
    refine ⟨_, kind, _, wants, rfl, rfl, T.k_FORMS, O.d, by omega, fun b hb => ?_⟩
    walk_at "go"
    refine ⟨_, _, rfl, .inr ⟨_, hb _, rfl⟩, ?_⟩
    rw [List.length_map, List.length_map]
    walk_at "go"
    refine iteN (fun z => absurd (by omega) z) (fun _ => ?_)
    walk_at "go"
    refine ⟨_, kind, _, wants, rfl, rfl, T.k_FORMS, O.d, by omega, fun b hb => ?_⟩
    walk_at "go"
    refine ⟨b, l, _, _, rfl, hb _, SqL.of el, ?_⟩
    refine comp_zipT (xs := wants.map V.str) (zs := ws.map V.str) (fun i ys H' => ys = rs.take i ∧ Same H H') (by rw [List.length_map, List.length_map]; exact la) ⟨rfl, Same.refl _⟩ ?_ ?_ ?_
    · rintro i ys H' _ ⟨rfl, s1⟩
      exact ⟨hb _, SqL.of (s1 _ _ el)⟩
    · rintro i u v ys H' P H'' hu hv ⟨rfl, s1⟩ s2 tP
      rw [List.getElem?_map] at hu hv
      obtain ⟨a, ha, rfl⟩ := Option.map_eq_some_iff.mp hu
      obtain ⟨w, hw, rfl⟩ := Option.map_eq_some_iff.mp hv
      obtain ⟨r, hr', vo⟩ := O.v.get ha hw
      have hi := (List.getElem?_eq_some_iff.mp hr').1
      have s12 := s1.trans s2
      refine rd_cap (σ' := [none, none, some _, some _]) rfl ?_
      refine rd_gT2 (SqT.of tP) ?_
      walk_at "go"
      refine iteT ?_
      walk_at "go"
      refine ⟨a, w, d1, d2, k1, k2, r, rfl, s12 _ _ e1, s12 _ _ e2, vo, fun H3 s3 => ?_⟩
      exact ⟨by rw [List.length_take]; omega, (Rm.take_snoc hr').symm, s12.trans s3⟩
    rintro ys H1 ⟨rfl, s1⟩
    rw [List.length_map, show wants.length = rs.length by omega, List.take_length]
    refine ⟨by omega, ?_⟩
    intro p hp; generalize eH : L2.upd _ p _ = H2; have s2 := L2.same_of hp eH; have t2 := L2.at_of eH; clear eH
    walk_at "go"
    refine ⟨p, _, rfl, .inl (SqL.of t2), rfl, O.fl, ?_⟩
    walk_at "go"
    refine Rm.iteB0 O.nn ?_
    walk_at "go"
    refine ⟨(by show 1 ≤ sizeLine; omega), ?_⟩
    intro p3 hp3; generalize eH : L2.upd _ p3 _ = H3; have s3 := L2.same_of hp3 eH; have t3 := L2.at_of eH; clear eH
    walk_at "go"
    refine ⟨p, _, rfl, .inl ⟨SqL.of (s3 _ _ t2), ?_⟩⟩
    intro p4 hp4; generalize eH : L2.upd _ p4 _ = H4; have s4 := L2.same_of hp4 eH; have t4 := L2.at_of eH; clear eH
    walk_at "go"
    refine ⟨p3, p4, _, _, rfl, rfl, SqT.of (s4 _ _ t3), SqT.of t4, by simp, by show 1 + rs.length ≤ sizeLine; omega, fun z => absurd z O.n, fun _ => ?_⟩
    intro p5 hp5; generalize eH : L2.upd _ p5 _ = H5; have s5 := L2.same_of hp5 eH; have t5 := L2.at_of eH; clear eH
    exact q p5 H5 (s1.trans (s2.trans (s3.trans (s4.trans s5)))) (O.f _ _ t5)
theorem ok_part_of (T : Txt K mg t) (G_is_word : FnOk P w K mg base CX0 2 t.a_is_word t.d_is_word ["text"] (Ws.sp_is_word)) (G_form_of : FnOk P w K mg base CX0 5 t.a_form_of t.d_form_of ["kind", "words", "limbs", "parts"] (Rm.sp_form_of)) : FnOk P w K mg base CX0 6 t.a_part_of t.d_part_of ["words", "limbs", "parts"] (Rm.sp_part_of) := by
  refine T.F_part_of.ok sc_part_of (fun vs H Q E h => ?_) (fun cdv A outer s H vs Q E hr h => ?_)
  · obtain ⟨f, x, l, d1, d2, k1, k2, rfl, el, e1, e2, ok, wx, lx, nx, q⟩ := h
    rfl
  obtain ⟨f, x, l, d1, d2, k1, k2, rfl, el, e1, e2, ok, wx, lx, nx, q⟩ := h
  refine ⟨_, (pss_cons (ps_if (PW.pt (pw_or (pt_cmpR op_lt (pe_callB call_len (by rfl) T.b_len bt_len (pa_cons (pv 0) pa_nil)) pe_int (nomark _)) (pw_or (pt_cmpR op_ne (pe_ix ix_list (pv 0) pe_int (fun _ _ => rfl)) pe_str (nomark _)) (pw_or (pt_not (pt_val (pe_call (G_is_word.mono (by decide)) hr (by rfl) T.m_is_word T.F_is_word.kp T.B_is_word .nil pass0 (pa_cons (pe_ix ix_list (pv 0) pe_int (fun _ _ => rfl)) pa_nil)))) (pw_or1 (pt_cmp (pc_din (hu_of hr) (pe_ix ix_list (pv 0) pe_int (fun _ _ => rfl)) (pv 2))))))))
      (pss_one (ps_ret pe_non))
      pss_nil)
    (pss_cons (ps_set (i := 3) sc_part_of.nd rfl (.inl rfl) (pe_call (G_form_of.mono (by decide)) hr (by rfl) T.m_form_of T.F_form_of.kp T.B_form_of .nil pass0 (pa_cons (pe_ix ix_list (pv 0) pe_int (fun _ _ => rfl)) (pa_cons (pe_slice sl_list (pv 0) (po_some pe_int) po_none) (pa_cons (pv 1) (pa_cons (pv 2) pa_nil))))))
    (pss_one (ps_ret (pe_ifExp (pt_cmpR op_isN (pv 3) pe_non (nomark _)) pe_non (pe_tup (pa_cons (pe_ix ix_list (pv 0) pe_int (fun _ _ => rfl)) (pa_cons (pv 3) pa_nil)))))))), ?_⟩
  refine rd_start (σ' := [some _, some _, some _, none]) rfl ?_
  have sz : (200 : Nat) < sizeLine := by decide
  obtain ⟨kind, ws, ew, w1⟩ := Rm.fmW_cons ok
  rw [ew] at el
  walk_at "go"
  refine ⟨_, _, rfl, .inl ⟨_, SqL.of el, rfl⟩, ?_⟩
  rw [List.length_map, List.length_cons, List.length_cons, List.length_cons]
  walk_at "go"
  refine iteD (fun c => absurd c (by omega)) (fun _ => ?_)
  walk_at "go"
  refine ⟨l, _, _, _, rfl, rfl, SqL.of el, atI_nat (j := 0) rfl, ?_⟩
  walk_at "go"
  refine Rm.iteB0 (by decide +kernel) ?_
  walk_at "go"
  refine ⟨l, _, _, _, rfl, rfl, SqL.of el, atI_nat (j := 1) rfl, ?_⟩
  walk_at "go"
  refine ⟨x, rfl, lx, fun H1 s1 => ?_⟩
  rw [wx]
  walk_at "go"
  refine iteF ?_
  walk_at "go"
  refine ⟨l, _, _, _, rfl, rfl, SqL.of (s1 _ _ el), atI_nat (j := 1) rfl, ?_⟩
  walk_at "go"
  refine ⟨d2, _, rfl, DGet.k (k := Sum.inr x) (s1 _ _ e2), ?_⟩
  rw [nx]
  walk_at "go"
  refine iteF ?_
  walk_at "go"
  refine ⟨l, _, _, _, rfl, rfl, SqL.of (s1 _ _ el), atI_nat (j := 2) rfl, ?_⟩
  walk_at "go"
  refine ⟨l, _, rfl, SqL.of (s1 _ _ el), ?_⟩
  intro p2 hp2; generalize eH : L2.upd _ p2 _ = H2; have s2 := L2.same_of hp2 eH; have t2 := L2.at_of eH; clear eH
  walk_at "go"
  have s12 := s1.trans s2
  have cut : cutV ((("part" : Str) :: x :: kind :: ws).map V.str) (some 3) none = ws.map V.str := by
    unfold cutV
    simp [HT.sIx]
    exact List.take_of_length_le (by simp)
  rw [cut] at t2
  refine ⟨f, kind, ws, p2, d1, d2, k1, k2, rfl, ew, t2, s12 _ _ e1, s12 _ _ e2, ok, fun p3 H3 s3 h3 => ?_⟩
  have s13 := s12.trans s3
  walk_at "go"
  refine ⟨rfl, _, rfl, ?_⟩
  refine Rm.iteB0 (by simp) ?_
  walk_at "go"
  refine ⟨l, _, _, _, rfl, rfl, SqL.of (s13 _ _ el), atI_nat (j := 1) rfl, ?_⟩
  walk_at "go"
  refine ⟨(by show 2 ≤ sizeLine; omega), ?_⟩
  intro p4 hp4; generalize eH : L2.upd _ p4 _ = H4; have s4 := L2.same_of hp4 eH; have t4 := L2.at_of eH; clear eH
  exact q p4 H4 (s13.trans s4) ⟨p3, t4, Rm.FormAt.same s4 h3⟩
theorem ok_limbs_of (T : Txt K mg t) (G_is_word : FnOk P w K mg base CX0 2 t.a_is_word t.d_is_word ["text"] (Ws.sp_is_word)) (G_bounded : FnOk P w K mg base CX0 3 t.a_bounded t.d_bounded ["text", "least"] (Rm.sp_bounded)) : FnOk P w K mg base CX0 4 t.a_limbs_of t.d_limbs_of ["words"] (Rm.sp_limbs_of) := by
  refine T.F_limbs_of.ok sc_limbs_of (fun vs H Q E h => ?_) (fun cdv A outer s H vs Q E hr h => ?_)
  · obtain ⟨l, ls, rfl, el, ok, q⟩ := h
    rfl
  obtain ⟨l, ls, rfl, el, ok, q⟩ := h
  refine ⟨_, (pss_cons (ps_set (i := 1) sc_limbs_of.nd rfl (.inl rfl) (pe_step (pv 0) (po_some pe_int) (po_some pe_int)))
    (pss_cons (ps_setC (i := 2) (ow := ["word"]) (ci := []) rfl (CompScope.of (defScope s_limbs_of) ["words", "names", "heights"] rfl rfl (by decide +kernel)) (gk_name (by decide)) sc_limbs_of.nd rfl (.inl rfl) (pi_list (pe_step (pv 0) (po_some pe_int) (po_some pe_int))) (fun _ _ _ _ _ => ⟨(pg_name (i := 0) (blk_nd ["words", "names", "heights"] rfl (by decide +kernel)) rfl (.inl rfl)), pf_nil, (pe_call (G_bounded.mono (by decide)) hr (by rfl) T.m_bounded T.F_bounded.kp T.B_bounded .nil pass0 (pa_cons (pv 0) (pa_cons pe_int pa_nil)))⟩))
    (pss_cons (ps_if (PW.pt (pw_or (pt_cmpR op_ne (pe_ix ix_list (pv 0) pe_int (fun _ _ => rfl)) pe_str (nomark _)) (pw_or (pt_not (pt_chain op_le op_le pe_int (pe_callB call_len (by rfl) T.b_len bt_len (pa_cons (pv 1) pa_nil)) pe_int)) (pw_or (pt_cmpR op_ne (pe_callB call_len (by rfl) T.b_len bt_len (pa_cons (pv 2) pa_nil)) (pe_callB call_len (by rfl) T.b_len bt_len (pa_cons (pv 1) pa_nil)) (nomark _)) (pw_or1 (pt_cmpR op_in_seq pe_non (pv 2) (by with_unfolding_all rfl)))))))
      (pss_one (ps_ret pe_non))
      pss_nil)
    (pss_cons (ps_if (PW.pt (pw_or (pt_not (pt_val (pe_callB (call_allB rfl) (by rfl) T.b_all bt_all (pa_cons (pe_comp (ow := ["name"]) (ci := []) rfl (CompScope.of (defScope s_limbs_of) ["words", "names", "heights"] rfl rfl (by decide +kernel)) (gk_name (by decide)) (pi_list (pv 1)) (fun _ _ _ _ _ => ⟨(pg_name (i := 0) (blk_nd ["words", "names", "heights"] rfl (by decide +kernel)) rfl (.inl rfl)), pf_nil, (pe_call (G_is_word.mono (by decide)) hr (by rfl) T.m_is_word T.F_is_word.kp T.B_is_word .nil pass0 (pa_cons (pv 0) pa_nil))⟩)) pa_nil)))) (pw_or1 (pt_cmpR op_ne (pe_lenset rfl (by rfl) T.b_len (by rfl) T.b_set (pv 1)) (pe_callB call_len (by rfl) T.b_len bt_len (pa_cons (pv 1) pa_nil)) (nomark _)))))
      (pss_one (ps_ret pe_non))
      pss_nil)
    (pss_one (ps_ret (pe_listzip rfl (by rfl) T.b_list (by rfl) T.b_zip (pa_cons (pv 1) (pa_cons (pv 2) pa_nil))))))))), ?_⟩
  refine rd_start (σ' := [some _, none, none]) rfl ?_
  have sz : (200 : Nat) < sizeLine := by decide
  obtain ⟨o1, o8, nd, ow⟩ := ok
  have fl : (ls.flatMap Rm.limbW).length = 2 * ls.length := by rw [(Rm.limbW_ok ow).1]
  walk_at "go"
  refine ⟨rfl, l, _, 1, rfl, by rw [List.length_map, List.length_cons]; omega, rfl, SqL.of el, ?_⟩
  intro p1 hp1; generalize eH : L2.upd _ p1 _ = H1; have s1 := L2.same_of hp1 eH; have t1 := L2.at_of eH; clear eH
  have c1 : ev (((("limbs" : Str) :: ls.flatMap Rm.limbW).map V.str).drop 1) = (ls.map (·.1)).map V.str := Rm.ev_limb ls
  have c2 : ev (((("limbs" : Str) :: ls.flatMap Rm.limbW).map V.str).drop 2) = (ls.map fun p => Rm.tI p.2).map V.str := Rm.ev_high ls
  rw [c1] at t1
  walk_at "go"
  refine ⟨rfl, l, _, 2, rfl, by rw [List.length_map, List.length_cons]; omega, rfl, SqL.of (s1 _ _ el), ?_⟩
  intro p2 hp2; generalize eH : L2.upd _ p2 _ = H2; have s2 := L2.same_of hp2 eH; have t2 := L2.at_of eH; clear eH
  rw [c2] at t2
  have s12 := s1.trans s2
  walk_at "go"
  refine ⟨p2, rfl, ⟨_, SqL.of t2⟩, ?_⟩
  refine comp_list (xs := (ls.map fun p => Rm.tI p.2).map V.str) (fun i ys H' => ys = ((ls.take i).map (·.2)).map V.int ∧ Same H2 H') ⟨rfl, Same.refl _⟩ ?_ ?_ ?_
  · rintro i ys H' _ ⟨rfl, s3⟩
    exact SqL.of (s3 _ _ t2)
  · rintro i v ys H' hv ⟨rfl, s3⟩
    rw [List.getElem?_map, List.getElem?_map] at hv
    obtain ⟨x, hx, rfl⟩ := Option.map_eq_some_iff.mp hv
    obtain ⟨p, hp, rfl⟩ := Option.map_eq_some_iff.mp hx
    have hi := (List.getElem?_eq_some_iff.mp hp).1
    obtain ⟨_, h0, h1⟩ := ow p (List.mem_of_getElem? hp)
    refine rd_cap (σ' := [none]) rfl ?_
    walk_at "go"
    refine iteT ?_
    walk_at "go"
    refine ⟨p.2, 0, rfl, h0, h1, h0, fun H4 s4 => ?_⟩
    refine ⟨by rw [List.length_map, List.length_map, List.length_take]; omega, ?_, s3.trans s4⟩
    rw [Rm.take_snoc hp, List.map_append, List.map_append]
    rfl
  rintro ys H3 ⟨rfl, s3⟩
  rw [show ((ls.map fun p => Rm.tI p.2).map V.str).length = ls.length by rw [List.length_map, List.length_map], List.take_length]
  refine ⟨by rw [List.length_map, List.length_map]; omega, ?_⟩
  intro p4 hp4; generalize eH : L2.upd _ p4 _ = H4; have s4 := L2.same_of hp4 eH; have t4 := L2.at_of eH; clear eH
  have s34 := s3.trans s4
  have s04 := s12.trans s34
  have e1 := s34 _ _ (s2 _ _ t1)
  walk_at "go"
  refine ⟨l, _, _, _, rfl, rfl, SqL.of (s04 _ _ el), atI_nat (j := 0) rfl, ?_⟩
  walk_at "go"
  refine Rm.iteB0 (by decide +kernel) ?_
  walk_at "go"
  refine ⟨_, _, rfl, .inl ⟨_, SqL.of e1, rfl⟩, ?_⟩
  rw [List.length_map, List.length_map]
  walk_at "go"
  refine iteD (fun _ => ?_) (fun c => absurd (by omega) c)
  walk_at "go"
  refine iteN (fun z => absurd (by omega) z) (fun _ => ?_)
  walk_at "go"
  refine ⟨_, _, rfl, .inl ⟨_, SqL.of t4, rfl⟩, ?_⟩
  walk_at "go"
  refine ⟨_, _, rfl, .inl ⟨_, SqL.of e1, rfl⟩, ?_⟩
  rw [List.length_map, List.length_map, List.length_map, List.length_map]
  walk_at "go"
  refine iteN (fun z => absurd rfl z) (fun _ => ?_)
  walk_at "go"
  refine ⟨p4, _, rfl, .inl (SqL.of t4), rfl, ?_, ?_⟩
  · rw [List.all_eq_true]
    intro x hx
    obtain ⟨i, _, rfl⟩ := List.mem_map.mp hx
    rfl
  walk_at "go"
  refine Rm.iteB0 ?_ ?_
  · show List.any _ _ = false
    rw [List.any_eq_false]
    intro x hx
    obtain ⟨i, _, rfl⟩ := List.mem_map.mp hx
    exact Bool.false_ne_true
  walk_at "go"
  refine ⟨p1, rfl, ⟨_, SqL.of e1⟩, ?_⟩
  refine comp_list (xs := (ls.map (·.1)).map V.str) (fun i ys H' => ys = (List.replicate i true).map V.bl ∧ Same H4 H') ⟨rfl, Same.refl _⟩ ?_ ?_ ?_
  · rintro i ys H' _ ⟨rfl, s5⟩
    exact SqL.of (s5 _ _ e1)
  · rintro i v ys H' hv ⟨rfl, s5⟩
    rw [List.getElem?_map, List.getElem?_map] at hv
    obtain ⟨x, hx, rfl⟩ := Option.map_eq_some_iff.mp hv
    obtain ⟨p, hp, rfl⟩ := Option.map_eq_some_iff.mp hx
    have hi := (List.getElem?_eq_some_iff.mp hp).1
    have w1 := (ow p (List.mem_of_getElem? hp)).1
    refine rd_cap (σ' := [none]) rfl ?_
    walk_at "go"
    refine iteT ?_
    walk_at "go"
    refine ⟨p.1, rfl, Nat.le_trans (Rm.len_W w1) (by decide), fun H6 s6 => ?_⟩
    rw [w1]
    refine ⟨by rw [List.length_map, List.length_replicate]; omega, ?_, s5.trans s6⟩
    rw [List.replicate_succ', List.map_append]
    rfl
  rintro ys H5 ⟨rfl, s5⟩
  refine ⟨by rw [List.length_map, List.length_replicate, List.length_map, List.length_map]; omega, ?_⟩
  intro p6 hp6; generalize eH : L2.upd _ p6 _ = H6; have s6 := L2.same_of hp6 eH; have t6 := L2.at_of eH; clear eH
  have s46 := s5.trans s6
  walk_at "go"
  refine ⟨p6, _, rfl, SqL.of t6, ?_⟩
  rw [show (List.replicate ((ls.map (·.1)).map V.str).length true).all id = true by simp]
  walk_at "go"
  refine iteF ?_
  walk_at "go"
  refine ⟨p1, ls.map (·.1), rfl, SqL.of (s46 _ _ e1), nd, by rw [List.length_map]; omega, ?_⟩
  walk_at "go"
  refine ⟨_, _, rfl, .inl ⟨_, SqL.of (s46 _ _ e1), rfl⟩, ?_⟩
  walk_at "go"
  refine iteN (fun z => absurd (by simp) z) (fun _ => ?_)
  walk_at "go"
  refine ⟨p1, p4, _, _, rfl, SqL.of (s46 _ _ e1), SqL.of (s46 _ _ t4), by rw [List.length_map, List.length_map, List.length_map, List.length_map], fun c as H7 s7 hc tc la pr => ?_⟩
  rw [List.length_map, List.length_map] at la
  refine q c as H7 (s04.trans (s46.trans s7)) (Rm.none_of (s04.trans s46) hc) tc ⟨la, fun i a x ha hx => ?_⟩
  exact pr i a _ _ ha (by rw [List.getElem?_map, List.getElem?_map, hx]; rfl) (by rw [List.getElem?_map, List.getElem?_map, hx]; rfl)
theorem ok_read (T : Txt K mg t) (G_numbers_of : FnOk P w K mg base CX0 1 t.a_numbers_of t.d_numbers_of ["named"] (Rm.sp_numbers_of)) (G_part_of : FnOk P w K mg base CX0 6 t.a_part_of t.d_part_of ["words", "limbs", "parts"] (Rm.sp_part_of)) (G_limbs_of : FnOk P w K mg base CX0 4 t.a_limbs_of t.d_limbs_of ["words"] (Rm.sp_limbs_of)) : FnOk P w K mg base CX0 7 t.a_read t.d_read ["text"] (Rm.sp_read) := by
  refine T.F_read.ok sc_read (fun vs H Q E h => ?_) (fun cdv A outer s H vs Q E hr h => ?_)
  · obtain ⟨ls, ps, rfl, ok, q⟩ := h
    rfl
  obtain ⟨ls, ps, rfl, ok, q⟩ := h
  refine ⟨_, (pss_cons (ps_set (i := 1) sc_read.nd rfl (.inl rfl) (pe_bm PySem.F.plainAttrs_str PySem.F.slot_str_split PySem.F.type_str_split mt_split (pv 0) (pa_cons pe_str pa_nil)))
    (pss_cons (ps_set (i := 2) sc_read.nd rfl (.inl rfl) (pe_call (G_limbs_of.mono (by decide)) hr (by rfl) T.m_limbs_of T.F_limbs_of.kp T.B_limbs_of .nil pass0 (pa_cons (pe_bm PySem.F.plainAttrs_str PySem.F.slot_str_split PySem.F.type_str_split mt_split (pe_ix ix_list (pv 1) pe_int (fun _ _ => rfl)) (pa_cons pe_str pa_nil)) pa_nil)))
    (pss_cons (ps_if (pt_cmpR op_isN (pv 2) pe_non (nomark _))
      (pss_one ps_never)
      pss_nil)
    (pss_cons (ps_if (pt_cmpR op_eq (pe_callB call_len (by rfl) T.b_len bt_len (pa_cons (pv 1) pa_nil)) pe_int (nomark _))
      (pss_one ps_never)
      pss_nil)
    (pss_cons (ps_set (i := 3) sc_read.nd rfl (.inl rfl) (pe_call (G_numbers_of.mono (by decide)) hr (by rfl) T.m_numbers_of T.F_numbers_of.kp T.B_numbers_of .nil pass0 (pa_cons (pv 2) pa_nil)))
    (pss_cons (ps_set (i := 4) sc_read.nd rfl (.inl rfl) pe_dnewK)
    (pss_cons (ps_set (i := 5) sc_read.nd rfl (.inl rfl) (pe_lst pa_nil))
    (pss_cons (ps_for PassesOwn.never rfl (pi_enum1 (by rfl) T.b_enumerate (pa_cons (pe_slice sl_list (pv 1) (po_some pe_int) po_none) pa_nil) pe_int) (pg_tup rfl (pgs_cons (pg_name (i := 6) sc_read.nd rfl (.inl rfl)) (pgs_cons (pg_name (i := 7) sc_read.nd rfl (.inl rfl)) pgs_nil)))
      (pss_cons (ps_set (i := 8) sc_read.nd rfl (.inl rfl) (pe_call (G_part_of.mono (by decide)) hr (by rfl) T.m_part_of T.F_part_of.kp T.B_part_of .nil pass0 (pa_cons (pe_bm PySem.F.plainAttrs_str PySem.F.slot_str_split PySem.F.type_str_split mt_split (pv 7) (pa_cons pe_str pa_nil)) (pa_cons (pv 3) (pa_cons (pv 4) pa_nil)))))
      (pss_cons (ps_if (PW.pt (pw_or (pt_cmpR op_isN (pv 8) pe_non (nomark _)) (pw_or1 (pt_cmpR op_gt (pv 6) pe_int (nomark _)))))
        (pss_one ps_never)
        pss_nil)
      (pss_cons (ps_dput (hu_of hr) (pv 4) (pe_ix ix_tup (pv 8) pe_int (fun _ _ => rfl)) pe_bl rfl)
      (pss_one (ps_expr (pe_bm PySem.F.plainAttrs_list PySem.F.slot_list_append PySem.F.type_list_append mt_append (pv 5) (pa_cons (pv 8) pa_nil))))))))
    (pss_one (ps_ret (pe_tup (pa_cons (pv 2) (pa_cons (pv 5) pa_nil))))))))))))), ?_⟩
  refine rd_start (σ' := [some _, none, none, none, none, none, none, none, none]) rfl ?_
  have sz : (100000 : Nat) < sizeLine := by decide
  obtain ⟨okl, B, p1, p60, pn, okf⟩ := ok
  have nlE : (Str.ofString "\n") = ⟨#[10]⟩ := by decide +kernel
  have blE : (Str.ofString " ") = ⟨#[32]⟩ := by decide +kernel
  have rl : (Rm.rowsOf ls ps).length = ps.length + 1 := by show (_ :: _).length = _; rw [List.length_cons, List.length_map]
  walk_at "go"
  refine ⟨rfl, ?_⟩
  walk_at "go"
  obtain ⟨v1, w1, u1, f1, f2, f3, f4⟩ := Rm.split_of (c := 10) (ys := Rm.rowsOf ls ps) nlE rfl (by omega) (Rm.cln_rows B) (by omega)
  refine ⟨_, 10, v1, w1, u1, rfl, by rw [nlE], by decide, f1, f2, f3, Nat.le_trans (Rm.rows_len B) (by omega), ?_⟩
  rw [f4]
  intro r1 hr1; generalize eH : L2.upd _ r1 _ = H1; have s1 := L2.same_of hr1 eH; have t1 := L2.at_of eH; clear eH
  walk_at "go"
  refine ⟨r1, _, _, _, rfl, rfl, SqL.of t1, atI_nat (j := 0) rfl, ?_⟩
  walk_at "go"
  refine ⟨rfl, ?_⟩
  walk_at "go"
  have lw := (Rm.limbW_ok okl.2.2.2).1
  have ll := okl.2.1
  have l1 := okl.1
  obtain ⟨v2, w2, u2, g1, g2, g3, g4⟩ := Rm.split_of (c := 32) (z := Rm.rowL ls) (ys := ("limbs" : Str) :: ls.flatMap Rm.limbW) blE rfl (by rw [List.length_cons]; omega) (fun y hy => Rm.no32 (Rm.cln_rowL okl.2.2.2 y hy)) (by rw [List.length_cons]; omega)
  refine ⟨_, 32, v2, w2, u2, rfl, by rw [blE], by decide, g1, g2, g3, Nat.le_trans (Rm.rowL_len ll okl.2.2.2) (by omega), ?_⟩
  rw [g4]
  intro r2 hr2; generalize eH : L2.upd _ r2 _ = H2; have s2 := L2.same_of hr2 eH; have t2 := L2.at_of eH; clear eH
  walk_at "go"
  refine ⟨r2, ls, rfl, t2, okl, fun pl las H3 s3 hpl t3 la => ?_⟩
  have s12 := s1.trans s2
  have s13 := s12.trans s3
  walk_at "go"
  refine ⟨rfl, _, rfl, ?_⟩
  refine Rm.iteB0 (by simp) ?_
  walk_at "go"
  have e1 := s3 _ _ (s2 _ _ t1)
  refine ⟨_, _, rfl, .inl ⟨_, SqL.of e1, rfl⟩, ?_⟩
  rw [List.length_map, rl]
  walk_at "go"
  refine iteD (fun c => absurd c (by omega)) (fun _ => ?_)
  walk_at "go"
  refine ⟨pl, las, ls.map (·.1), rfl, t3, by rw [la.1, List.length_map], fun i a x ha hx => ?_, okl.2.2.1, by rw [List.length_map]; omega, fun d1 H4 s4 hd1 t4 => ?_⟩
  · rw [List.getElem?_map] at hx
    obtain ⟨p, hp, rfl⟩ := Option.map_eq_some_iff.mp hx
    exact ⟨_, la.2 i a p ha hp⟩
  walk_at "go"
  intro d2 hd2; generalize eH : L2.upd _ d2 _ = H5; have s5 := L2.same_of hd2 eH; have t5 := L2.at_of eH; clear eH
  walk_at "go"
  refine ⟨Nat.zero_le _, ?_⟩
  intro pp hpp; generalize eH : L2.upd _ pp _ = H6; have s6 := L2.same_of hpp eH; have t6 := L2.at_of eH; clear eH
  have s35 := s4.trans s5
  have s36 := s35.trans s6
  have nd2p : d2 ≠ pp := ne_of_none t5 hpp
  walk_at "go"
  refine ⟨r1, _, rfl, SqL.of (s36 _ _ e1), ?_⟩
  intro r7 hr7; generalize eH : L2.upd _ r7 _ = H7; have s7 := L2.same_of hr7 eH; have t7 := L2.at_of eH; clear eH
  have cut : cutV ((Rm.rowsOf ls ps).map V.str) (some 1) none = (ps.map Rm.rowP).map V.str := Rm.cut_tail
  rw [cut] at t7
  walk_at "go"
  refine ⟨rfl, r7, _, rfl, SqL.of t7, ?_⟩
  have n7d : r7 ≠ d2 := (ne_of_none (s6 _ _ t5) hr7).symm
  have n7p : r7 ≠ pp := (ne_of_none t6 hr7).symm
  have t57 := s7 _ _ (s6 _ _ t5)
  have t67 := s7 _ _ t6
  refine for_enum1 (xs := (ps.map Rm.rowP).map V.str) (fun i σ H' => ∃ (pas : List Addr) (o6 o7 o8 : Option V), σ = [some (.str (Txt.join "\n" (Rm.rowsOf ls ps))), some (.ref r1), some (.ref pl), some (.ref d1), some (.ref d2), some (.ref pp), o6, o7, o8] ∧ Same H4 H' ∧ H' r7 = some (.lst ((ps.map Rm.rowP).map V.str)) ∧
    H' d2 = some (.dK (Rm.tabB ((ps.take i).map (·.1)))) ∧ H' pp = some (.lst (pas.map V.ref)) ∧ Rm.All2 (Rm.PartAt H') pas (ps.take i)) ⟨[], _, _, _, rfl, s5.trans (s6.trans s7), t7, t57, t67, .nil⟩ ?_ ?_ ?_
  · rintro i σ H' _ ⟨pas, o6, o7, o8, rfl, sm, er, ed, ep, ap⟩
    exact SqL.of er
  · rintro i v σ H' P H'' hv ⟨pas, o6, o7, o8, rfl, sm, er, ed, ep, ap⟩ sP tP
    rw [List.getElem?_map, List.getElem?_map] at hv
    obtain ⟨x, hx, rfl⟩ := Option.map_eq_some_iff.mp hv
    obtain ⟨p, hp, rfl⟩ := Option.map_eq_some_iff.mp hx
    have hi := (List.getElem?_eq_some_iff.mp hp).1
    have hm := List.mem_of_getElem? hp
    obtain ⟨pw, pf⟩ := B.pn p hm
    have fm := okf i p hp
    obtain ⟨kind, ws, ew, w1⟩ := Rm.fmW_cons fm
    have f9 := (Rm.fmW_ok pf).1
    have s2P := sm.trans sP
    refine rd_gT2 (SqT.of tP) ?_
    walk_at "go"
    refine ⟨rfl, ?_⟩
    walk_at "go"
    obtain ⟨v3, w3, u3, g1, g2, g3, g4⟩ := Rm.split_of (c := 32) (z := Rm.rowP p) (ys := ("part" : Str) :: p.1 :: Rm.fmW p.2) blE rfl (by rw [List.length_cons, List.length_cons]; omega) (fun y hy => Rm.no32 (Rm.cln_rowP pw pf y hy)) (by rw [List.length_cons, List.length_cons]; omega)
    refine ⟨_, 32, v3, w3, u3, rfl, by rw [blE], by decide, g1, g2, g3, Nat.le_trans (Rm.rowP_len B hm) (by omega), ?_⟩
    rw [g4]
    intro r8 hr8; generalize eH : L2.upd _ r8 _ = H8; have s8 := L2.same_of hr8 eH; have t8 := L2.at_of eH; clear eH
    have sP8 := sP.trans s8
    walk_at "go"
    have nin : p.1 ∉ (ps.take i).map (·.1) := fun z => by
      obtain ⟨y, hy, e⟩ := List.mem_map.mp z
      obtain ⟨j, hj, e'⟩ := List.mem_iff_getElem.mp hy
      rw [List.getElem_take] at e'
      rw [List.length_take] at hj
      have ei : ps[i]'hi = p := (List.getElem?_eq_some_iff.mp hp).2
      have := List.pairwise_iff_getElem.mp pn j i (by rw [List.length_map]; omega) (by rw [List.length_map]; exact hi) (by omega)
      rw [List.getElem_map, List.getElem_map, ei, e'] at this
      exact this e
    refine ⟨p.2, p.1, r8, d1, d2, _, _, rfl, t8, s8 _ _ (s2P _ _ t4), sP8 _ _ ed, fm, pw, Nat.le_trans (Rm.len_W pw) (by decide), Rm.tabB_none nin, fun a H9 s9 hP => ?_⟩
    have sP9 := sP8.trans s9
    walk_at "go"
    refine ⟨rfl, _, rfl, ?_⟩
    refine Rm.iteB0 (by simp) ?_
    walk_at "go"
    refine iteD (fun c => absurd c (by omega)) (fun _ => ?_)
    walk_at "go"
    obtain ⟨fa, ha, hf⟩ := id hP
    refine ⟨a, _, _, _, rfl, rfl, SqT.of ha, Rm.at0, ?_⟩
    have ed9 := sP9 _ _ ed
    have ep9 := sP9 _ _ ep
    have tl : ((ps.take i).map (·.1)).length = i := by rw [List.length_map, List.length_take]; omega
    refine ⟨d2, _, rfl, DPut.k (k := Sum.inr p.1) ed9 (by show (List.map _ _).length < _; rw [List.length_map, tl]; omega), ?_⟩
    rw [Rm.tabB_put nin]
    generalize eX : upd H9 d2 _ = H10
    have td10 := at_of eX
    have k10 : ∀ b u, b ≠ d2 → H9 b = some u → H10 b = some u := fun b u hb h => by rw [← eX, upd_ne hb]; exact h
    clear eX
    have ep10 := k10 _ _ nd2p.symm ep9
    have pal := ap.1
    walk_at "go"
    refine ⟨.inl ⟨rfl, _, SqL.of ep10⟩, ?_⟩
    walk_at "go"
    refine ⟨pp, _, _, rfl, rfl, ep10, by rw [List.length_map, pal, List.length_take]; omega, ?_⟩
    have tk : ps.take (i + 1) = ps.take i ++ [p] := Rm.take_snoc hp
    have kt : ∀ b xs, H9 b = some (.tup xs) → upd H10 pp (.lst (pas.map V.ref ++ [.ref a])) b = some (.tup xs) := fun b xs h => (upd_ne (ne_of (k10 _ _ (ne_of h ed9 (fun z => by cases z)) h) ep10 (fun z => by cases z))).trans (k10 _ _ (ne_of h ed9 (fun z => by cases z)) h)
    have low : ∀ {b u}, H4 b = some u → b ≠ d2 ∧ b ≠ pp := fun h => ⟨ne_of_none h hd2, ne_of_none (s5 _ _ h) hpp⟩
    refine ⟨pas ++ [a], _, _, _, rfl, fun b u h => (upd_ne (low h).2).trans (k10 _ _ (low h).1 (sP9 _ _ (sm _ _ h))), (upd_ne n7p).trans (k10 _ _ n7d (sP9 _ _ er)), (upd_ne nd2p).trans (by rw [tk, List.map_append]; exact td10), by rw [upd_same, List.map_append]; rfl, ?_⟩
    rw [tk]
    exact Rm.All2.snoc (ap.mono fun b x h => Rm.PartAt.put kt (Rm.PartAt.same sP9 h)) (Rm.PartAt.put kt hP)
  rintro σ' H' ⟨pas, o6, o7, o8, rfl, sm, er, ed, ep, ap⟩
  rw [List.length_map, List.length_map, List.take_length] at ap
  walk_at "go"
  refine ⟨(by show 2 ≤ sizeLine; omega), ?_⟩
  intro b hb; generalize eH : L2.upd _ b _ = H9; have s9 := L2.same_of hb eH; have t9 := L2.at_of eH; clear eH
  have s39 := s4.trans (sm.trans s9)
  refine q b pl pp las pas H9 (s13.trans s39) (Rm.none_of s12 hpl) (Rm.none_of (s13.trans s35) hpp) (ne_of_none (s35 _ _ t3) hpp) ⟨t9, s39 _ _ t3, la.mono fun a x h => s39 _ _ h, s9 _ _ ep, ap.mono fun a x h => Rm.PartAt.same s9 h⟩
theorem ok__law_cell_at (T : Txt K mg t) : FnOk P w K mg base CX0 1 t.a__law_cell_at t.d__law_cell_at ["_law_script", "_law_k"] (Pr.sp_cell_at K) := by
  refine T.F__law_cell_at.ok sc__law_cell_at (fun vs H Q E h => ?_) (fun cdv A outer s H vs Q E hr h => ?_)
  · obtain ⟨a, ns, k, rfl, hS, h63, h0, q⟩ := h
    rfl
  obtain ⟨a, ns, k, rfl, hS, h63, h0, q⟩ := h
  refine ⟨_, (pss_cons (ps_if (pt_cmpR op_lt (pv 1) (pe_callB call_len (by rfl) T.b_len bt_len (pa_cons (pv 0) pa_nil)) (nomark _))
      (pss_one (ps_ret (pe_ix ix_list (pv 0) (pv 1) (fun _ _ => rfl))))
      pss_nil)
    (pss_one (ps_ret pe_int))), ?_⟩
  refine rd_start (σ' := [some _, some _]) rfl ?_
  walk_at "go"
  refine ⟨_, _, rfl, .inl ⟨_, hS, rfl⟩, ?_⟩
  walk_at "go"
  refine iteD (fun c => ?_) (fun c => ?_)
  · walk_at "go"
    exact ⟨a, _, k, _, rfl, rfl, hS, Pr.at_cell h0 (by rw [List.length_map] at c; exact c), q⟩
  · walk_at "go"
    have e : Pr.cell ns k = 0 := by
      rw [List.length_map] at c
      unfold Pr.cell
      rw [List.getD_eq_getElem?_getD, List.getElem?_eq_none (by omega)]
      rfl
    rw [e] at q
    exact q
theorem ok__law_window (T : Txt K mg t) : FnOk P w K mg base CX0 1 t.a__law_window t.d__law_window ["_law_cell", "_law_turn"] (Rm.sp_window) := by
  refine T.F__law_window.ok sc__law_window (fun vs H Q E h => ?_) (fun cdv A outer s H vs Q E hr h => ?_)
  · obtain ⟨c, m, rfl, m0, m1, q⟩ := h
    rfl
  obtain ⟨c, m, rfl, m0, m1, q⟩ := h
  refine ⟨_, (pss_cons (ps_if (pt_cmpR op_lt (pv 0) (pe_op op_pow pe_int pe_int) (nomark _))
      (pss_one (ps_ret (pv 0)))
      pss_nil)
    (pss_cons (ps_for PassesOwn.never rfl (pi_range1 (by rfl) T.b_range (pa_cons (pe_op op_mulB pe_int (pv 1)) pa_nil)) (pg_name (i := 2) sc__law_window.nd rfl (.inl rfl))
      (pss_one (ps_set (i := 0) sc__law_window.nd rfl (.inl rfl) (pe_op op_fdivB (pv 0) (pe_op op_pow pe_int pe_int)))))
    (pss_one (ps_ret (pe_op op_add (pe_op op_pow pe_int pe_int) (pv 0)))))), ?_⟩
  refine rd_start (σ' := [some _, some _, none]) rfl ?_
  walk_at "go"
  refine iteD (fun c1 => ?_) (fun c1 => ?_)
  · walk_at "go"
    exact q _
  walk_at "go"
  refine ⟨_, rfl, by omega, by omega, ?_⟩
  refine for_range (fun i σ H' => ∃ (x : Int) (o2 : Option V), σ = [some (.int x), some (.int m), o2] ∧ H = H') ⟨_, _, rfl, rfl⟩ ?_ ?_
  · rintro i σ H' hi ⟨x, o2, rfl, rfl⟩
    walk_at "go"
    exact ⟨_, _, rfl, rfl⟩
  · rintro σ H' ⟨x, o2, rfl, rfl⟩
    walk_at "go"
    exact q _
theorem ok__law_stream (T : Txt K mg t) : FnOk P w K mg base CX0 1 t.a__law_stream t.d__law_stream ["_law_cell", "_law_many"] (Ws.sp_stream) := by
  refine T.F__law_stream.ok sc__law_stream (fun vs H Q E h => ?_) (fun cdv A outer s H vs Q E hr h => ?_)
  · obtain ⟨c, m, rfl, m0, m1, q⟩ := h
    rfl
  obtain ⟨c, m, rfl, m0, m1, q⟩ := h
  refine ⟨_, (pss_cons (ps_set (i := 2) sc__law_stream.nd rfl (.inl rfl) (pe_lst pa_nil))
    (pss_cons (ps_if (pt_cmpR op_ge (pv 0) (pe_op op_pow pe_int pe_int) (nomark _))
      (pss_cons (ps_set (i := 3) sc__law_stream.nd rfl (.inl rfl) (pe_op op_sub (pv 0) (pe_op op_pow pe_int pe_int)))
      (pss_cons (ps_for PassesOwn.never rfl (pi_range1 (by rfl) T.b_range (pa_cons (pv 1) pa_nil)) (pg_name (i := 4) sc__law_stream.nd rfl (.inl rfl))
        (pss_cons (ps_expr (pe_bm PySem.F.plainAttrs_list PySem.F.slot_list_append PySem.F.type_list_append mt_append (pv 2) (pa_cons (pe_op op_mod (pv 3) pe_int) pa_nil)))
        (pss_one (ps_set (i := 3) sc__law_stream.nd rfl (.inl rfl) (pe_op op_fdivB (pv 3) pe_int)))))
      (pss_one (ps_ret (pv 2)))))
      pss_nil)
    (pss_cons (ps_set (i := 3) sc__law_stream.nd rfl (.inl rfl) (pe_op op_add (pe_op op_mod (pv 0) pe_int) pe_int))
    (pss_cons (ps_for PassesOwn.never rfl (pi_range1 (by rfl) T.b_range (pa_cons (pv 1) pa_nil)) (pg_name (i := 4) sc__law_stream.nd rfl (.inl rfl))
      (pss_cons (ps_set (i := 3) sc__law_stream.nd rfl (.inl rfl) (pe_op op_add (pe_op op_add (pe_op op_add (pe_op op_mulB (pv 3) (pv 3)) (pe_op op_mulB pe_int (pv 3))) (pe_op op_mulB pe_int (pv 4))) pe_int))
      (pss_cons (ps_set (i := 3) sc__law_stream.nd rfl (.inl rfl) (pe_op op_mod (pv 3) pe_int))
      (pss_one (ps_expr (pe_bm PySem.F.plainAttrs_list PySem.F.slot_list_append PySem.F.type_list_append mt_append (pv 2) (pa_cons (pe_op op_fdivB (pv 3) pe_int) pa_nil)))))))
    (pss_one (ps_ret (pv 2))))))), ?_⟩
  refine rd_start (σ' := [some _, some _, none, none, none]) rfl ?_
  have sz : (100 : Nat) < sizeLine := by decide
  walk_at "go"
  refine ⟨Nat.zero_le _, fun p hp => ?_⟩
  walk_at "go"
  refine iteD (fun c1 => ?_) (fun c1 => ?_)
  · walk_at "go"
    refine ⟨_, rfl, by omega, by omega, ?_⟩
    refine for_range (fun i σ H' => ∃ (x : Int) (o4 : Option V) (ns : List Int), σ = [some (.int c), some (.int m), some (.ref p), some (.int x), o4] ∧ Same H H' ∧ H' p = some (.lst (ns.map V.int)) ∧ ns.length = i ∧ ∀ n ∈ ns, 0 ≤ n ∧ n < 33554432)
      ⟨_, _, [], rfl, Pr.same_new hp _, upd_same, rfl, fun n h => by cases h⟩ ?_ ?_
    · rintro i σ H' hi ⟨x, o4, ns, rfl, sm, hl, hn, hb⟩
      walk_at "go"
      refine ⟨.inl ⟨rfl, _, SqL.of hl⟩, ?_⟩
      walk_at "go"
      refine ⟨p, _, _, rfl, rfl, hl, by rw [List.length_map]; omega, ?_⟩
      walk_at "go"
      refine ⟨_, _, ns ++ [x % 33554432], rfl, Ws.same_upd sm hp, by rw [upd_same, List.map_append]; rfl, by simp [hn], fun n h => ?_⟩
      rcases List.mem_append.mp h with z | z
      · exact hb n z
      · have e : n = x % 33554432 := by simpa using z
        omega
    · rintro σ H' ⟨x, o4, ns, rfl, sm, hl, hn, hb⟩
      walk_at "go"
      exact q p ns _ sm hp hl (by omega) hb
  · walk_at "go"
    refine ⟨_, rfl, by omega, by omega, ?_⟩
    refine for_range (fun i σ H' => ∃ (x : Int) (o4 : Option V) (ns : List Int), σ = [some (.int c), some (.int m), some (.ref p), some (.int x), o4] ∧ 0 ≤ x ∧ x ≤ 2147531918 ∧ Same H H' ∧ H' p = some (.lst (ns.map V.int)) ∧ ns.length = i ∧ ∀ n ∈ ns, 0 ≤ n ∧ n < 33554432)
      ⟨_, _, [], rfl, by omega, by omega, Pr.same_new hp _, upd_same, rfl, fun n h => by cases h⟩ ?_ ?_
    · rintro i σ H' hi ⟨x, o4, ns, rfl, x0, x1, sm, hl, hn, hb⟩
      walk_at "go"
      generalize x * x + 48271 * x + 7 * (0 + (i : Int)) + 1 = y
      refine ⟨.inl ⟨rfl, _, SqL.of hl⟩, ?_⟩
      walk_at "go"
      refine ⟨p, _, _, rfl, rfl, hl, by rw [List.length_map]; omega, ?_⟩
      refine ⟨_, _, ns ++ [y % 2147483647 / 64], rfl, by omega, by omega, Ws.same_upd sm hp, by rw [upd_same, List.map_append]; rfl, by simp [hn], fun n h => ?_⟩
      rcases List.mem_append.mp h with z | z
      · exact hb n z
      · have e : n = y % 2147483647 / 64 := by simpa using z
        omega
    · rintro σ H' ⟨x, o4, ns, rfl, x0, x1, sm, hl, hn, hb⟩
      walk_at "go"
      exact q p ns _ sm hp hl (by omega) hb
theorem ok__law_names (T : Txt K mg t) (G__law_stream : FnOk P w K mg base CX0 1 t.a__law_stream t.d__law_stream ["_law_cell", "_law_many"] (Ws.sp_stream)) : FnOk P w K mg base CX0 2 t.a__law_names t.d__law_names ["_law_cell", "_law_many"] (Rm.sp_names) := by
  refine T.F__law_names.ok sc__law_names (fun vs H Q E h => ?_) (fun cdv A outer s H vs Q E hr h => ?_)
  · obtain ⟨c, rfl, q⟩ := h
    rfl
  obtain ⟨c, rfl, q⟩ := h
  refine ⟨_, (pss_cons (ps_set (i := 2) sc__law_names.nd rfl (.inr rfl) pe_str)
    (pss_cons (ps_set (i := 3) sc__law_names.nd rfl (.inl rfl) (pe_call (G__law_stream.mono (by decide)) hr (by rfl) T.m__law_stream T.F__law_stream.kp T.B__law_stream .nil pass0 (pa_cons (pv 0) (pa_cons pe_int pa_nil))))
    (pss_cons (ps_set (i := 4) sc__law_names.nd rfl (.inl rfl) (pe_bm PySem.F.plainAttrs_str PySem.F.slot_str_join PySem.F.type_str_join mt_join pe_str (pa_cons (pe_comp (ow := ["_law_one"]) (ci := [2]) rfl (CompScope.of (defScope s__law_names) ["_law_cell", "_law_many", "_law_letters", "_law_some", "_law_base", "_law_at", "_law_names_here", "_law_k", "_law_two"] rfl rfl (by decide +kernel)) (gk_name (by decide)) (pi_list (pe_slice sl_list (pv 3) po_none (po_some (pe_op op_mod (pe_ix ix_list (pv 3) pe_int (fun _ _ => rfl)) pe_int)))) (fun _ _ _ _ _ => ⟨(pg_name (i := 0) (blk_nd ["_law_cell", "_law_many", "_law_letters", "_law_some", "_law_base", "_law_at", "_law_names_here", "_law_k", "_law_two"] rfl (by decide +kernel)) rfl (.inl rfl)), pf_nil, (pe_ix ix_str (pv 1) (pe_op op_mod (pv 0) pe_int) (fun _ _ => rfl))⟩)) pa_nil)))
    (pss_cons (ps_set (i := 5) sc__law_names.nd rfl (.inl rfl) (pe_op op_mod (pe_ix ix_list (pv 3) pe_int (fun _ _ => rfl)) (pe_op op_add (pe_callB call_len (by rfl) T.b_len bt_len (pa_cons (pv 4) pa_nil)) pe_int)))
    (pss_cons (ps_set (i := 6) sc__law_names.nd rfl (.inl rfl) (pe_lst pa_nil))
    (pss_cons (ps_for PassesOwn.never rfl (pi_range1 (by rfl) T.b_range (pa_cons (pv 1) pa_nil)) (pg_name (i := 7) sc__law_names.nd rfl (.inl rfl))
      (pss_cons (ps_set (i := 8) sc__law_names.nd rfl (.inl rfl) (pe_op op_add_str (pe_ix ix_str (pv 2) (pe_op op_fdivB (pv 7) pe_int) (fun _ _ => rfl)) (pe_ix ix_str (pv 2) (pe_op op_mod (pv 7) pe_int) (fun _ _ => rfl))))
      (pss_one (ps_if (pt_cmpR op_eq (pe_op op_mod (pe_ix ix_list (pv 3) pe_int (fun _ _ => rfl)) pe_int) pe_int (nomark _))
        (pss_one (ps_expr (pe_bm PySem.F.plainAttrs_list PySem.F.slot_list_append PySem.F.type_list_append mt_append (pv 6) (pa_cons (pe_op op_add_str (pe_op op_add_str (pe_slice sl_str (pv 4) po_none (po_some (pv 5))) (pv 8)) (pe_slice sl_str (pv 4) (po_some (pv 5)) po_none)) pa_nil))))
        (pss_one (ps_if (pt_cmpR op_eq (pe_op op_mod (pe_ix ix_list (pv 3) pe_int (fun _ _ => rfl)) pe_int) pe_int (nomark _))
          (pss_one (ps_expr (pe_bm PySem.F.plainAttrs_list PySem.F.slot_list_append PySem.F.type_list_append mt_append (pv 6) (pa_cons (pe_op op_add_str (pv 8) (pe_slice sl_str (pv 4) po_none (po_some (pe_op op_mod (pv 7) (pe_op op_add (pe_callB call_len (by rfl) T.b_len bt_len (pa_cons (pv 4) pa_nil)) pe_int))))) pa_nil))))
          (pss_one (ps_expr (pe_bm PySem.F.plainAttrs_list PySem.F.slot_list_append PySem.F.type_list_append mt_append (pv 6) (pa_cons (pe_slice sl_str (pv 8) (po_some (pe_callTy call_int1 (by rfl) T.b_int bt_int (pa_cons (pe_cmpR op_lt (pv 7) pe_int (nomark _)) pa_nil))) po_none) pa_nil))))))))))
    (pss_one (ps_ret (pv 6))))))))), ?_⟩
  refine rd_start (σ' := [some _, some _, none, none, none, none, none, none, none]) rfl ?_
  have sz : (200 : Nat) < sizeLine := by decide
  walk_at "go"
  refine ⟨_, _, rfl, by omega, by omega, fun p ns H1 s1 hp hl hn hb => ?_⟩
  have hb' : ∀ k : Int, 0 ≤ k → k < 9 → 0 ≤ Pr.cell ns k := fun k h0 h1 => (hb _ (List.mem_of_getElem? (Pr.get_cell (ns := ns) (k := k) h0 (by omega)))).1
  walk_at "go"
  refine ⟨rfl, ?_⟩
  walk_at "go"
  refine ⟨p, _, _, _, rfl, rfl, SqL.of hl, Pr.at_cell (by omega) (by omega), ?_⟩
  walk_at "go"
  refine ⟨p, _, rfl, SqL.of hl, fun p3 hp3 => ?_⟩
  have b6 := hb' 6 (by omega) (by omega)
  have hcut := Pr.cut_take (ns := ns) (m := Pr.cell ns 6 % 7) (by omega) (by omega)
  rw [hcut]
  have s4 := Pr.same_new hp3 (.lst ((ns.take (Pr.cell ns 6 % 7).toNat).map V.int))
  have e3 : upd H1 p3 (.lst ((ns.take (Pr.cell ns 6 % 7).toNat).map V.int)) p3 = some (.lst ((ns.take (Pr.cell ns 6 % 7).toNat).map V.int)) := upd_same
  generalize upd H1 p3 (.lst ((ns.take (Pr.cell ns 6 % 7).toNat).map V.int)) = H4 at s4 e3 ⊢
  have hml : (ns.take (Pr.cell ns 6 % 7).toNat).length ≤ 6 := by rw [List.length_take]; omega
  generalize ns.take (Pr.cell ns 6 % 7).toNat = ms at e3 hml ⊢
  refine ⟨p3, rfl, ⟨_, SqL.of e3⟩, ?_⟩
  refine comp_list (xs := ms.map V.int) (fun i ys H' => ∃ zs : List Str, ys = zs.map V.str ∧ zs.length = i ∧ (∀ z ∈ zs, ∃ c, z = ⟨#[c]⟩ ∧ 97 ≤ c ∧ c ≤ 122) ∧ H4 = H') ⟨[], rfl, rfl, (fun z h => nomatch h), rfl⟩ ?_ ?_ ?_
  · rintro i ys H' _ ⟨zs, rfl, hz, h1, rfl⟩
    exact SqL.of e3
  · rintro i x ys H' hx ⟨zs, rfl, hz, h1, rfl⟩
    obtain ⟨n, hn', rfl⟩ := List.mem_map.mp (List.mem_of_getElem? hx)
    have hi := (List.getElem?_eq_some_iff.mp hx).1
    rw [List.length_map] at hi
    refine rd_cap (σ' := [none, some _]) rfl ?_
    walk_at "go"
    refine iteT ?_
    walk_at "go"
    refine ⟨_, _, _, rfl, rfl, (by decide +kernel), Rm.let_at (by omega) (by omega), ?_⟩
    refine ⟨by rw [List.length_map]; omega, zs ++ [⟨#[97 + (n % 26).toNat]⟩], by rw [List.map_append]; rfl, by simp [hz], fun y hy => ?_, rfl⟩
    rcases List.mem_append.mp hy with w | w
    · exact h1 y w
    · have e : y = ⟨#[97 + (n % 26).toNat]⟩ := by simpa using w
      exact ⟨_, e, by omega, by omega⟩
  rintro ys H' ⟨zs, rfl, hz, h1, rfl⟩
  rw [List.length_map] at hz
  refine ⟨by rw [List.length_map]; omega, fun p4 hp4 => ?_⟩
  have s5 := Pr.same_new hp4 (.lst (zs.map V.str))
  have e4 : upd H4 p4 (.lst (zs.map V.str)) p4 = some (.lst (zs.map V.str)) := upd_same
  generalize upd H4 p4 (.lst (zs.map V.str)) = H5 at s5 e4 ⊢
  have h1' : ∀ z ∈ zs, z.length = 1 := fun z hz => by obtain ⟨c, rfl, _⟩ := h1 z hz; rfl
  have hone : (zs.map (·.length)).sum = zs.length := Ws.sum_ones zs h1'
  have ee : (Str.ofString "").length = 0 := by decide +kernel
  have hsum : (zs.map (·.length)).sum + zs.length * (Str.ofString "").length ≤ 16777216 := by rw [hone, ee]; omega
  walk_at "go"
  refine ⟨_, p4, zs, rfl, rfl, SqL.of e4, hsum, ?_⟩
  obtain ⟨hxl, hxc⟩ := Rm.base_good (zs := zs) h1
  generalize Txt.join (Str.ofString "") zs = x at hxl hxc ⊢
  have s6 := s1.trans (s4.trans s5)
  have hl5 := s5 _ _ (s4 _ _ hl)
  have b7 := hb' 7 (by omega) (by omega)
  have b8 := hb' 8 (by omega) (by omega)
  walk_at "go"
  refine ⟨p, _, _, _, rfl, rfl, SqL.of hl5, Pr.at_cell (by omega) (by omega), ?_⟩
  walk_at "go"
  refine ⟨_, _, rfl, ⟨by omega, rfl⟩, ?_⟩
  walk_at "go"
  have a0 := Int.emod_nonneg (Pr.cell ns 7) (show (x.length : Int) + 1 ≠ 0 by omega)
  have a1 := Int.emod_lt_of_pos (Pr.cell ns 7) (show 0 < (x.length : Int) + 1 by omega)
  generalize Pr.cell ns 7 % ((x.length : Int) + 1) = a at a0 a1 ⊢
  refine ⟨Nat.zero_le _, fun p5 hp5 => ?_⟩
  walk_at "go"
  refine ⟨_, rfl, by omega, by omega, ?_⟩
  have np : p ≠ p5 := ne_of_none hl5 hp5
  refine for_range (fun i σ H' => ∃ (o7 o8 : Option V) (ws : List Str), σ = [some (.int c), some (.int 68), some (.str "abcdefghijklmnopqrstuvwxyz"), some (.ref p), some (.str x), some (.int a), some (.ref p5), o7, o8] ∧ Same H5 H' ∧ H' p5 = some (.lst (ws.map V.str)) ∧ ws.length = i ∧ ∀ j, j < i → (ws[j]?).map (·.cps.toList) = some (Rm.nmL (Pr.cell ns 8 % 3) x.cps.toList a.toNat j))
    ⟨_, _, [], rfl, Pr.same_new hp5 _, upd_same, rfl, fun j hj => absurd hj (Nat.not_lt_zero j)⟩ ?_ ?_
  · rintro i σ H' hi ⟨o7, o8, ws, rfl, sm, hl', hn', hw⟩
    have hi' : i < 68 := by omega
    walk_at "go"
    refine ⟨_, _, _, rfl, rfl, (by decide +kernel), Rm.let_at (by omega) (by omega), ?_⟩
    walk_at "go"
    refine ⟨_, _, _, rfl, rfl, (by decide +kernel), Rm.let_at (by omega) (by omega), ?_⟩
    have one : ∀ c : Nat, (⟨#[c]⟩ : Str).length = 1 := fun _ => rfl
    refine ⟨_, _, rfl, rfl, by rw [one, one]; omega, ?_⟩
    obtain ⟨two, etwo⟩ : ∃ two, two = (⟨#[97 + ((0 + (i : Int)) / 26).toNat]⟩ : Str) ++ ⟨#[97 + ((0 + (i : Int)) % 26).toNat]⟩ := ⟨_, rfl⟩
    rw [← etwo]
    have ltwo : two.length = 2 := by rw [etwo, Str.length_append]; rfl
    have ctwo : two.cps.toList = [97 + i / 26, 97 + i % 26] := by
      rw [etwo, Rm.app_list]
      show [97 + ((0 + (i : Int)) / 26).toNat] ++ [97 + ((0 + (i : Int)) % 26).toNat] = _
      rw [show ((0 + (i : Int)) / 26).toNat = i / 26 by omega, show ((0 + (i : Int)) % 26).toNat = i % 26 by omega]
      rfl
    clear etwo
    walk_at "go"
    refine ⟨p, _, _, _, rfl, rfl, SqL.of (sm _ _ hl5), Pr.at_cell (by omega) (by omega), ?_⟩
    walk_at "go"
    have fin : ∀ y : Str, y.cps.toList = Rm.nmL (Pr.cell ns 8 % 3) x.cps.toList a.toNat i → ∃ (o7' o8' : Option V) (ws' : List Str), [some (V.int c), some (.int 68), some (.str "abcdefghijklmnopqrstuvwxyz"), some (.ref p), some (.str x), some (.int a), some (.ref p5), some (.int (0 + (i : Int))), some (.str two)] = [some (V.int c), some (.int 68), some (.str "abcdefghijklmnopqrstuvwxyz"), some (.ref p), some (.str x), some (.int a), some (.ref p5), o7', o8'] ∧ Same H5 (upd H' p5 (.lst (ws.map V.str ++ [.str y]))) ∧ upd H' p5 (.lst (ws.map V.str ++ [.str y])) p5 = some (.lst (ws'.map V.str)) ∧ ws'.length = i + 1 ∧ ∀ j, j < i + 1 → (ws'[j]?).map (·.cps.toList) = some (Rm.nmL (Pr.cell ns 8 % 3) x.cps.toList a.toNat j) :=
      fun y hy => ⟨_, _, ws ++ [y], rfl, Ws.same_upd sm hp5, by rw [upd_same, List.map_append]; rfl, by simp [hn'], Rm.nm_snoc hn' hw hy⟩
    refine iteD (fun c1 => ?_) (fun c1 => ?_)
    · walk_at "go"
      refine ⟨.inl ⟨rfl, _, SqL.of hl'⟩, ?_⟩
      walk_at "go"
      have j1 := Txt.slice_le x none (some a)
      have j2 := Txt.slice_le x (some a) none
      refine ⟨by omega, ?_⟩
      walk_at "go"
      refine ⟨_, _, rfl, rfl, by omega, ?_⟩
      walk_at "go"
      refine ⟨by omega, ?_⟩
      refine ⟨_, _, rfl, rfl, by rw [Str.length_append]; omega, ?_⟩
      walk_at "go"
      refine ⟨p5, _, _, rfl, rfl, hl', by rw [List.length_map]; omega, ?_⟩
      walk_at "go"
      refine fin _ ?_
      rw [Rm.app_list, Rm.app_list, Rm.cutTo (by omega) (by omega), Rm.cutFrom (by omega) (by omega), ctwo]
      unfold Rm.nmL
      rw [if_pos c1]
    · walk_at "go"
      refine ⟨p, _, _, _, rfl, rfl, SqL.of (sm _ _ hl5), Pr.at_cell (by omega) (by omega), ?_⟩
      walk_at "go"
      refine iteD (fun c2 => ?_) (fun c2 => ?_)
      · walk_at "go"
        refine ⟨.inl ⟨rfl, _, SqL.of hl'⟩, ?_⟩
        walk_at "go"
        refine ⟨_, _, rfl, ⟨by omega, rfl⟩, ?_⟩
        walk_at "go"
        have d0 := Int.emod_nonneg (0 + (i : Int)) (show (x.length : Int) + 1 ≠ 0 by omega)
        have d1 := Int.emod_lt_of_pos (0 + (i : Int)) (show 0 < (x.length : Int) + 1 by omega)
        have j1 := Txt.slice_le x none (some ((0 + (i : Int)) % ((x.length : Int) + 1)))
        refine ⟨by omega, ?_⟩
        refine ⟨_, _, rfl, rfl, by omega, ?_⟩
        walk_at "go"
        refine ⟨p5, _, _, rfl, rfl, hl', by rw [List.length_map]; omega, ?_⟩
        walk_at "go"
        refine fin _ ?_
        rw [Rm.app_list, Rm.cutTo (by omega) (by omega), ctwo]
        unfold Rm.nmL
        rw [if_neg c1, if_pos c2, Ws.len_is, show ((0 + (i : Int)) % ((x.length : Int) + 1)).toNat = i % (x.length + 1) by rw [Int.zero_add]; exact Int.toNat_natCast _]
      · walk_at "go"
        refine ⟨.inl ⟨rfl, _, SqL.of hl'⟩, ?_⟩
        walk_at "go"
        refine .inr ⟨_, rfl, ?_⟩
        walk_at "go"
        have j1 := Txt.slice_le two (some (if decide (0 + (i : Int) < 26) = true then 1 else 0)) none
        refine ⟨by omega, ?_⟩
        walk_at "go"
        refine ⟨p5, _, _, rfl, rfl, hl', by rw [List.length_map]; omega, ?_⟩
        walk_at "go"
        refine fin _ ?_
        unfold Rm.nmL
        rw [if_neg c1, if_neg c2]
        by_cases c3 : i < 26
        · rw [if_pos (decide_eq_true (by omega)), if_pos c3, Rm.cutFrom (by omega) (by omega), ctwo]
          rfl
        · rw [if_neg (by simp; omega), if_neg c3, Rm.cutFrom (by omega) (by omega), ctwo]
          rfl
  · rintro σ H' ⟨o7, o8, ws, rfl, sm, hl', hn', hw⟩
    walk_at "go"
    obtain ⟨g1, g2⟩ := Rm.names_good (ws := ws) hxc (by rw [Ws.len_is]; omega) (by omega) hw
    exact q p5 ws _ (s6.trans sm) (Rm.none_of s6 hp5) hl' (by omega) g1 g2
theorem ok__law_number (T : Txt K mg t) : FnOk P w K mg base CX0 1 t.a__law_number t.d__law_number ["_law_cell", "_law_mixed", "_law_least"] (Rm.sp_number) := by
  refine T.F__law_number.ok sc__law_number (fun vs H Q E h => ?_) (fun cdv A outer s H vs Q E hr h => ?_)
  · obtain ⟨c, m, l, rfl, m0, m1, l0, l1, q⟩ := h
    rfl
  obtain ⟨c, m, l, rfl, m0, m1, l0, l1, q⟩ := h
  refine ⟨_, (pss_cons (ps_set (i := 3) sc__law_number.nd rfl (.inl rfl) (pe_op op_mod (pv 1) pe_int))
    (pss_cons (ps_if (pt_cmpR op_eq (pv 3) pe_int (nomark _))
      (pss_one (ps_ret (pe_op op_add (pv 2) (pe_op op_mod (pe_op op_fdivB (pv 1) pe_int) pe_int))))
      pss_nil)
    (pss_cons (ps_if (pt_cmpR op_eq (pv 3) pe_int (nomark _))
      (pss_one (ps_ret (pe_op op_add (pv 2) (pe_op op_mod (pv 0) (pe_op op_sub (pe_op op_add (pe_op op_pow pe_int pe_int) pe_int) (pv 2))))))
      pss_nil)
    (pss_cons (ps_if (pt_cmpR op_eq (pv 3) pe_int (nomark _))
      (pss_one (ps_ret (pe_op op_add (pv 2) (pe_op op_mod (pe_op op_mulB (pe_op op_mulB (pv 1) (pv 1)) pe_int) (pe_op op_sub (pe_op op_add (pe_op op_pow pe_int pe_int) pe_int) (pv 2))))))
      pss_nil)
    (pss_cons (ps_set (i := 4) sc__law_number.nd rfl (.inl rfl) (pe_op op_sub (pe_op op_add (pe_callTy call_intS (by rfl) T.b_int bt_int (pa_cons (pe_op op_add_str pe_str (pe_op op_mulS pe_str (pe_op op_mod (pe_op op_fdivB (pv 1) pe_int) pe_int))) pa_nil)) (pe_op op_mod (pe_op op_fdivB (pv 1) pe_int) pe_int)) pe_int))
    (pss_one (ps_ret (pe_callB (call_max2 rfl) (by rfl) T.b_max bt_max (pa_cons (pv 2) (pa_cons (pe_callB (call_min2 rfl) (by rfl) T.b_min bt_min (pa_cons (pe_op op_pow pe_int pe_int) (pa_cons (pv 4) pa_nil))) pa_nil)))))))))), ?_⟩
  refine rd_start (σ' := [some _, some _, some _, none, none]) rfl ?_
  have a0 := Int.emod_nonneg c (show (10 ^ 18 + 1 - l : Int) ≠ 0 by omega)
  have a1 := Int.emod_lt_of_pos c (show (0 : Int) < 10 ^ 18 + 1 - l by omega)
  have b0 := Int.emod_nonneg (m * m * 48271) (show (10 ^ 18 + 1 - l : Int) ≠ 0 by omega)
  have b1 := Int.emod_lt_of_pos (m * m * 48271) (show (0 : Int) < 10 ^ 18 + 1 - l by omega)
  have mm := mul_in (x := m) (y := m) (A := 33554432) (B := 33554432) (by omega) (by omega) (by omega) (by omega)
  walk_at "go"
  refine iteD (fun c1 => ?_) (fun c1 => ?_)
  · walk_at "go"
    refine q _ ?_ ?_ <;> omega
  walk_at "go"
  refine iteD (fun c2 => ?_) (fun c2 => ?_)
  · walk_at "go"
    refine q _ ?_ ?_ <;> omega
  walk_at "go"
  refine iteD (fun c3 => ?_) (fun c3 => ?_)
  · walk_at "go"
    refine q _ ?_ ?_ <;> omega
  walk_at "go"
  refine ⟨_, _, rfl, rfl, Rm.mulOk0 (by omega) (by omega), ?_⟩
  walk_at "go"
  refine ⟨_, _, rfl, rfl, Rm.tens_len (by omega) (by omega), ?_⟩
  walk_at "go"
  refine ⟨_, _, rfl, Rm.tens (by omega) (by omega), Rm.tens_len2 (by omega) (by omega), ?_⟩
  walk_at "go"
  generalize (10 : Int) ^ (m / 4 % 19).toNat + m / 76 % 3 - 1 = y
  refine ⟨_, _, rfl, ?_⟩
  walk_at "go"
  refine ⟨_, _, rfl, q _ ?_ ?_⟩ <;> repeat' split <;> omega
theorem ok__law_add (T : Txt K mg t) : FnOk P w K mg base CX0 1 t.a__law_add t.d__law_add ["_law_room_here", "_law_form", "_law_hands", "_law_long"] (Rm.sp_add) := by
  refine T.F__law_add.ok sc__law_add (fun vs H Q E h => ?_) (fun cdv A outer s H vs Q E hr h => ?_)
  · obtain ⟨z, m, fa, ha, f, ks, g, rfl, R, hf, hh, l1, l2, l3, l4, q⟩ := h
    rfl
  obtain ⟨z, m, fa, ha, f, ks, g, rfl, R, hf, hh, l1, l2, l3, l4, q⟩ := h
  refine ⟨_, (pss_cons (ps_expr (pe_bm PySem.F.plainAttrs_list PySem.F.slot_list_append PySem.F.type_list_append mt_append (pe_dget (hu_of hr) (pv 0) pe_str (fun _ _ => rfl)) (pa_cons (pe_tup (pa_cons (pe_ix ix_list (pe_dget (hu_of hr) (pv 0) pe_str (fun _ _ => rfl)) (pe_callB call_len (by rfl) T.b_len bt_len (pa_cons (pe_dget (hu_of hr) (pv 0) pe_str (fun _ _ => rfl)) pa_nil)) (fun _ _ => rfl)) (pa_cons (pv 1) pa_nil))) pa_nil)))
    (pss_cons (ps_expr (pe_bm PySem.F.plainAttrs_list PySem.F.slot_list_append PySem.F.type_list_append mt_append (pe_dget (hu_of hr) (pv 0) pe_str (fun _ _ => rfl)) (pa_cons (pv 2) pa_nil)))
    (pss_one (ps_expr (pe_bm PySem.F.plainAttrs_list PySem.F.slot_list_append PySem.F.type_list_append mt_append (pe_dget (hu_of hr) (pv 0) pe_str (fun _ _ => rfl)) (pa_cons (pv 3) pa_nil)))))), ?_⟩
  refine rd_start (σ' := [some _, some _, some _, some _]) rfl ?_
  have sz : (200 : Nat) < sizeLine := by decide
  obtain ⟨qs, eq, aq⟩ := R.p
  obtain ⟨hs, eh, ah⟩ := R.h
  have hq := aq.1
  have hhl := ah.1
  walk_at "go"
  refine ⟨_, _, rfl, Rm.get_parts R, ?_⟩
  refine ⟨.inl ⟨rfl, _, SqL.of eq⟩, ?_⟩
  walk_at "go"
  refine ⟨_, _, rfl, Rm.get_names R, ?_⟩
  walk_at "go"
  refine ⟨_, _, rfl, Rm.get_parts R, ?_⟩
  walk_at "go"
  refine ⟨_, _, rfl, .inl ⟨_, SqL.of eq, rfl⟩, ?_⟩
  rw [List.length_map, hq]
  refine ⟨_, _, _, _, rfl, rfl, SqL.of R.n, Rm.at_name (by omega), ?_⟩
  walk_at "go"
  refine ⟨(by show 2 ≤ sizeLine; omega), fun p hp => ?_⟩
  have s1 := Pr.same_new hp (.tup [.str (m.names.getD m.parts.length ⟨#[]⟩), .ref fa])
  have e1 : upd H p (.tup [.str (m.names.getD m.parts.length ⟨#[]⟩), .ref fa]) p = some (.tup [.str (m.names.getD m.parts.length ⟨#[]⟩), .ref fa]) := upd_same
  generalize upd H p (.tup [.str (m.names.getD m.parts.length ⟨#[]⟩), .ref fa]) = H1 at s1 e1 ⊢
  have R1 := R.keeps s1
  have hf1 : Rm.FormAt H1 fa f := Rm.FormAt.kp R (Rm.Kp.of s1) hf
  have hh1 : Rm.HandAt z H1 ha ks := ⟨s1 _ _ hh.1, hh.2⟩
  have aq1 : Rm.All2 (Rm.PartAt H1) qs m.parts := aq.mono fun a x h => Rm.PartAt.kp R (Rm.Kp.of s1) h
  have ah1 : Rm.All2 (Rm.HandAt z H1) hs m.hands := ah.mono fun a x h => ⟨s1 _ _ h.1, h.2⟩
  have eq1 := s1 _ _ eq
  have eh1 := s1 _ _ eh
  have od := Rm.off_dict R
  walk_at "go"
  refine ⟨_, _, _, rfl, rfl, eq1, by rw [List.length_map]; omega, ?_⟩
  walk_at "go"
  have d2 : upd H1 z.pp (.lst (qs.map V.ref ++ [.ref p])) z.r = _ := (upd_ne od.1).trans R1.d
  have eh2 : upd H1 z.pp (.lst (qs.map V.ref ++ [.ref p])) z.ph = _ := (upd_ne R.ph.symm).trans eh1
  have eg2 : upd H1 z.pp (.lst (qs.map V.ref ++ [.ref p])) z.pg = _ := (upd_ne R.pg.symm).trans R1.g
  have ep2 : upd H1 z.pp (.lst (qs.map V.ref ++ [.ref p])) z.pp = _ := upd_same
  have k2 : Rm.Kp z H1 (upd H1 z.pp (.lst (qs.map V.ref ++ [.ref p]))) := fun b u o h => (upd_ne o.1).trans h
  generalize upd H1 z.pp (.lst (qs.map V.ref ++ [.ref p])) = H2 at d2 eh2 eg2 ep2 k2 ⊢
  refine ⟨_, _, rfl, DGet.k (k := Sum.inr "hands") d2, ?_⟩
  refine ⟨.inl ⟨rfl, _, SqL.of eh2⟩, ?_⟩
  walk_at "go"
  refine ⟨_, _, _, rfl, rfl, eh2, by rw [List.length_map]; omega, ?_⟩
  walk_at "go"
  have d3 : upd H2 z.ph (.lst (hs.map V.ref ++ [.ref ha])) z.r = _ := (upd_ne od.2.1).trans d2
  have eg3 : upd H2 z.ph (.lst (hs.map V.ref ++ [.ref ha])) z.pg = _ := (upd_ne R.hg.symm).trans eg2
  have ep3 : upd H2 z.ph (.lst (hs.map V.ref ++ [.ref ha])) z.pp = _ := (upd_ne R.ph).trans ep2
  have eh3 : upd H2 z.ph (.lst (hs.map V.ref ++ [.ref ha])) z.ph = _ := upd_same
  have k3 : Rm.Kp z H1 (upd H2 z.ph (.lst (hs.map V.ref ++ [.ref ha]))) := fun b u o h => (upd_ne o.2.1).trans (k2 b u o h)
  generalize upd H2 z.ph (.lst (hs.map V.ref ++ [.ref ha])) = H3 at d3 eg3 ep3 eh3 k3 ⊢
  refine ⟨_, _, rfl, DGet.k (k := Sum.inr "long") d3, ?_⟩
  refine ⟨.inl ⟨rfl, _, SqL.of eg3⟩, ?_⟩
  walk_at "go"
  refine ⟨_, _, _, rfl, rfl, eg3, by rw [List.length_map]; omega, ?_⟩
  have eg4 : upd H3 z.pg (.lst (m.longs.map V.int ++ [.int g])) z.pg = _ := upd_same
  have ep4 : upd H3 z.pg (.lst (m.longs.map V.int ++ [.int g])) z.pp = _ := (upd_ne R.pg).trans ep3
  have eh4 : upd H3 z.pg (.lst (m.longs.map V.int ++ [.int g])) z.ph = _ := (upd_ne R.hg).trans eh3
  have k4 : Rm.Kp z H1 (upd H3 z.pg (.lst (m.longs.map V.int ++ [.int g]))) := fun b u o h => (upd_ne o.2.2).trans (k3 b u o h)
  exact q _ (fun b u o h => k4 b u o (s1 b u h)) (Rm.add_room R1 k4 eq1 aq1 eh1 ah1 ⟨fa, e1, hf1⟩ hh1 ep4 eh4 eg4)
theorem ok__law_simple (T : Txt K mg t) (G__law_window : FnOk P w K mg base CX0 1 t.a__law_window t.d__law_window ["_law_cell", "_law_turn"] (Rm.sp_window)) (G__law_number : FnOk P w K mg base CX0 1 t.a__law_number t.d__law_number ["_law_cell", "_law_mixed", "_law_least"] (Rm.sp_number)) (G__law_add : FnOk P w K mg base CX0 1 t.a__law_add t.d__law_add ["_law_room_here", "_law_form", "_law_hands", "_law_long"] (Rm.sp_add)) : FnOk P w K mg base CX0 2 t.a__law_simple t.d__law_simple ["_law_room_here", "_law_cell", "_law_some"] (Rm.sp_simple) := by
  refine T.F__law_simple.ok sc__law_simple (fun vs H Q E h => ?_) (fun cdv A outer s H vs Q E hr h => ?_)
  · obtain ⟨z, m, c, p, ns, rfl, R, G, ml, hl, op, hn, hb, q⟩ := h
    rfl
  obtain ⟨z, m, c, p, ns, rfl, R, G, ml, hl, op, hn, hb, q⟩ := h
  refine ⟨_, (pss_cons (ps_set (i := 3) sc__law_simple.nd rfl (.inl rfl) (pe_call (G__law_number.mono (by decide)) hr (by rfl) T.m__law_number T.F__law_number.kp T.B__law_number .nil pass0 (pa_cons (pe_call (G__law_window.mono (by decide)) hr (by rfl) T.m__law_window T.F__law_window.kp T.B__law_window .nil pass0 (pa_cons (pv 1) (pa_cons pe_int pa_nil))) (pa_cons (pe_ix ix_list (pv 2) pe_int (fun _ _ => rfl)) (pa_cons pe_int pa_nil)))))
    (pss_one (ps_if (pt_cmpR op_eq (pe_op op_mod (pe_ix ix_list (pv 2) pe_int (fun _ _ => rfl)) pe_int) pe_int (nomark _))
      (pss_one (ps_expr (pe_call (G__law_add.mono (by decide)) hr (by rfl) T.m__law_add T.F__law_add.kp T.B__law_add .nil pass0 (pa_cons (pv 0) (pa_cons (pe_tup (pa_cons pe_str (pa_cons (pv 3) pa_nil))) (pa_cons (pe_lst pa_nil) (pa_cons (pv 3) pa_nil)))))))
      (pss_one (ps_if (pt_cmpR op_eq (pe_op op_mod (pe_ix ix_list (pv 2) pe_int (fun _ _ => rfl)) pe_int) pe_int (nomark _))
        (pss_one (ps_expr (pe_call (G__law_add.mono (by decide)) hr (by rfl) T.m__law_add T.F__law_add.kp T.B__law_add .nil pass0 (pa_cons (pv 0) (pa_cons (pe_tup (pa_cons pe_str (pa_cons (pe_ix ix_list (pe_dget (hu_of hr) (pv 0) pe_str (fun _ _ => rfl)) (pe_op op_mod (pe_ix ix_list (pv 2) pe_int (fun _ _ => rfl)) pe_int) (fun _ _ => rfl)) (pa_cons (pv 3) pa_nil)))) (pa_cons (pe_lst pa_nil) (pa_cons (pv 3) pa_nil)))))))
        (pss_cons (ps_set (i := 4) sc__law_simple.nd rfl (.inl rfl) (pe_op op_mod (pe_ix ix_list (pv 2) pe_int (fun _ _ => rfl)) (pe_callB call_len (by rfl) T.b_len bt_len (pa_cons (pe_dget (hu_of hr) (pv 0) pe_str (fun _ _ => rfl)) pa_nil))))
        (pss_cons (ps_set (i := 5) sc__law_simple.nd rfl (.inl rfl) (pe_call (G__law_number.mono (by decide)) hr (by rfl) T.m__law_number T.F__law_number.kp T.B__law_number .nil pass0 (pa_cons (pe_call (G__law_window.mono (by decide)) hr (by rfl) T.m__law_window T.F__law_window.kp T.B__law_window .nil pass0 (pa_cons (pe_op op_fdivB (pv 1) pe_int) (pa_cons pe_int pa_nil))) (pa_cons (pe_ix ix_list (pv 2) pe_int (fun _ _ => rfl)) (pa_cons pe_int pa_nil)))))
        (pss_one (ps_expr (pe_call (G__law_add.mono (by decide)) hr (by rfl) T.m__law_add T.F__law_add.kp T.B__law_add .nil pass0 (pa_cons (pv 0) (pa_cons (pe_tup (pa_cons pe_str (pa_cons (pe_ix ix_tup (pe_ix ix_list (pe_dget (hu_of hr) (pv 0) pe_str (fun _ _ => rfl)) (pv 4) (fun _ _ => rfl)) pe_int (fun _ _ => rfl)) (pa_cons (pv 5) (pa_cons (pv 3) pa_nil))))) (pa_cons (pe_lst (pa_cons (pv 4) pa_nil)) (pa_cons (pv 3) pa_nil)))))))))))))), ?_⟩
  refine rd_start (σ' := [some _, some _, some _, none, none, none]) rfl ?_
  have sz : (200 : Nat) < sizeLine := by decide
  have nl := G.nl
  have e1 := G.hl
  have e2 := G.gl
  have c0 := hb.cell (k := 0) (by omega) (by omega)
  have c1 := hb.cell (k := 1) (by omega) (by omega)
  have c2 := hb.cell (k := 2) (by omega) (by omega)
  have c3 := hb.cell (k := 3) (by omega) (by omega)
  walk_at "go"
  refine ⟨_, _, rfl, by omega, by omega, fun wn => ?_⟩
  walk_at "go"
  refine ⟨p, _, _, _, rfl, rfl, SqL.of hl, Pr.at_cell (by omega) (by omega), ?_⟩
  walk_at "go"
  refine ⟨_, _, _, rfl, by omega, by omega, by omega, by omega, fun b b1 b2 => ?_⟩
  walk_at "go"
  refine ⟨p, _, _, _, rfl, rfl, SqL.of hl, Pr.at_cell (by omega) (by omega), ?_⟩
  walk_at "go"
  refine iteD (fun d1 => ?_) (fun d1 => ?_)
  · walk_at "go"
    refine ⟨(by show 2 ≤ sizeLine; omega), fun p1 hp1 => ?_⟩
    have s1 := Pr.same_new hp1 (.tup [.str "hold", .int b])
    have t1 : upd H p1 (.tup [.str "hold", .int b]) p1 = some (.tup [.str "hold", .int b]) := upd_same
    generalize upd H p1 (.tup [.str "hold", .int b]) = H1 at s1 t1 ⊢
    have R1 := R.keeps s1
    walk_at "go"
    refine ⟨Nat.zero_le _, fun p2 hp2 => ?_⟩
    have s2 := Pr.same_new hp2 (.lst [])
    have t2 : upd H1 p2 (.lst []) p2 = some (.lst []) := upd_same
    generalize upd H1 p2 (.lst []) = H2 at s2 t2 ⊢
    have R2 := R1.keeps s2
    walk_at "go"
    refine ⟨z, m, p1, p2, .hold b, [], b, rfl, R2, s2 _ _ t1, ⟨t2, Rm.off_new R1 hp2⟩, by omega, by omega, by omega, nl, fun H' k R' => ?_⟩
    exact q _ _ ((Rm.Kp.of (s1.trans s2)).trans k) R' (G.add ⟨⟨b1, b2, rfl, rfl⟩, (fun z h => nomatch h), .nil, by omega, by omega⟩) Rm.add_len
  walk_at "go"
  refine ⟨p, _, _, _, rfl, rfl, SqL.of hl, Pr.at_cell (by omega) (by omega), ?_⟩
  walk_at "go"
  refine iteD (fun d2 => ?_) (fun d2 => ?_)
  · walk_at "go"
    refine ⟨_, _, rfl, Rm.get_names R, ?_⟩
    walk_at "go"
    refine ⟨p, _, _, _, rfl, rfl, SqL.of hl, Pr.at_cell (by omega) (by omega), ?_⟩
    walk_at "go"
    refine ⟨_, _, _, _, rfl, rfl, SqL.of R.n, Rm.at_nameI (by omega) (by omega), ?_⟩
    have hx := Rm.getD_in (ws := m.names) (n := (Pr.cell ns 1 % 60).toNat) (by omega)
    generalize m.names.getD (Pr.cell ns 1 % 60).toNat ⟨#[]⟩ = x at hx ⊢
    walk_at "go"
    refine ⟨(by show 3 ≤ sizeLine; omega), fun p1 hp1 => ?_⟩
    have s1 := Pr.same_new hp1 (.tup [.str "ring", .str x, .int b])
    have t1 : upd H p1 (.tup [.str "ring", .str x, .int b]) p1 = some (.tup [.str "ring", .str x, .int b]) := upd_same
    generalize upd H p1 (.tup [.str "ring", .str x, .int b]) = H1 at s1 t1 ⊢
    have R1 := R.keeps s1
    walk_at "go"
    refine ⟨Nat.zero_le _, fun p2 hp2 => ?_⟩
    have s2 := Pr.same_new hp2 (.lst [])
    have t2 : upd H1 p2 (.lst []) p2 = some (.lst []) := upd_same
    generalize upd H1 p2 (.lst []) = H2 at s2 t2 ⊢
    have R2 := R1.keeps s2
    walk_at "go"
    refine ⟨z, m, p1, p2, .ring x b, [], b, rfl, R2, s2 _ _ t1, ⟨t2, Rm.off_new R1 hp2⟩, by omega, by omega, by omega, nl, fun H' k R' => ?_⟩
    exact q _ _ ((Rm.Kp.of (s1.trans s2)).trans k) R' (G.add ⟨⟨hx, b1, b2, rfl, rfl⟩, (fun z h => nomatch h), .nil, by omega, by omega⟩) Rm.add_len
  walk_at "go"
  refine ⟨p, _, _, _, rfl, rfl, SqL.of hl, Pr.at_cell (by omega) (by omega), ?_⟩
  walk_at "go"
  obtain ⟨ls, el, al⟩ := R.l
  have l1 := G.l1
  have l8 := G.l8
  have la := al.1
  refine ⟨_, _, rfl, Rm.get_limbs R, ?_⟩
  walk_at "go"
  refine ⟨_, _, rfl, .inl ⟨_, SqL.of el, rfl⟩, ?_⟩
  rw [List.length_map, la]
  walk_at "go"
  have i0 := Int.emod_nonneg (Pr.cell ns 1) (show (m.limbs.length : Int) ≠ 0 by omega)
  have i1 := Int.emod_lt_of_pos (Pr.cell ns 1) (show 0 < (m.limbs.length : Int) by omega)
  generalize Pr.cell ns 1 % (m.limbs.length : Int) = j at i0 i1 ⊢
  refine ⟨_, _, rfl, by omega, by omega, fun wn2 => ?_⟩
  walk_at "go"
  refine ⟨p, _, _, _, rfl, rfl, SqL.of hl, Pr.at_cell (by omega) (by omega), ?_⟩
  walk_at "go"
  refine ⟨_, _, _, rfl, by omega, by omega, by omega, by omega, fun h h1 h2 => ?_⟩
  walk_at "go"
  refine ⟨_, _, rfl, Rm.get_limbs R, ?_⟩
  walk_at "go"
  obtain ⟨x, v, hx⟩ : ∃ x v, m.limbs[j.toNat]? = some (x, v) := ⟨_, _, List.getElem?_eq_getElem (by omega)⟩
  obtain ⟨a, ha, hat⟩ := al.get hx
  refine ⟨_, _, _, _, rfl, rfl, SqL.of el, Rm.at_refI i0 ha, ?_⟩
  walk_at "go"
  refine ⟨_, _, _, _, rfl, rfl, SqT.of hat, rfl, ?_⟩
  walk_at "go"
  refine ⟨(by show 4 ≤ sizeLine; omega), fun p1 hp1 => ?_⟩
  have s1 := Pr.same_new hp1 (.tup [.str "raise", .str x, .int h, .int b])
  have t1 : upd H p1 (.tup [.str "raise", .str x, .int h, .int b]) p1 = some (.tup [.str "raise", .str x, .int h, .int b]) := upd_same
  generalize upd H p1 (.tup [.str "raise", .str x, .int h, .int b]) = H1 at s1 t1 ⊢
  have R1 := R.keeps s1
  walk_at "go"
  refine ⟨(by show 1 ≤ sizeLine; omega), fun p2 hp2 => ?_⟩
  have s2 := Pr.same_new hp2 (.lst [.int j])
  have t2 : upd H1 p2 (.lst [.int j]) p2 = some (.lst [.int j]) := upd_same
  generalize upd H1 p2 (.lst [.int j]) = H2 at s2 t2 ⊢
  have R2 := R1.keeps s2
  walk_at "go"
  refine ⟨z, m, p1, p2, .rise x h b, [j], b, rfl, R2, s2 _ _ t1, ⟨t2, Rm.off_new R1 hp2⟩, by omega, by omega, by omega, nl, fun H' k R' => ?_⟩
  refine q _ _ ((Rm.Kp.of (s1.trans s2)).trans k) R' (G.add ⟨⟨⟨j.toNat, v, hx, by rw [Int.toNat_of_nonneg i0]⟩, h1, h2, b1, b2, rfl⟩, fun k hk => ?_, List.pairwise_singleton _ _, by omega, by omega⟩) Rm.add_len
  have e : k = j := by simpa using hk
  omega
theorem ok__law_there (T : Txt K mg t) : FnOk P w K mg base CX0 1 t.a__law_there t.d__law_there ["_law_room_here", "_law_number_here"] (Rm.sp_there) := by
  refine T.F__law_there.ok sc__law_there (fun vs H Q E h => ?_) (fun cdv A outer s H vs Q E hr h => ?_)
  · obtain ⟨z, m, n, rfl, R, hm, n0, q⟩ := h
    rfl
  obtain ⟨z, m, n, rfl, R, hm, n0, q⟩ := h
  refine ⟨_, (pss_cons (ps_set (i := 2) sc__law_there.nd rfl (.inl rfl) (pe_callB call_len (by rfl) T.b_len bt_len (pa_cons (pe_dget (hu_of hr) (pv 0) pe_str (fun _ _ => rfl)) pa_nil)))
    (pss_cons (ps_if (pt_cmpR op_eq (pe_op op_mod (pv 1) pe_int) pe_int (nomark _))
      (pss_one (ps_ret (pe_op op_sub (pe_op op_sub (pv 2) pe_int) (pe_op op_mod (pe_op op_fdivB (pv 1) pe_int) (pe_callB (call_min2 rfl) (by rfl) T.b_min bt_min (pa_cons (pv 2) (pa_cons pe_int pa_nil)))))))
      pss_nil)
    (pss_one (ps_ret (pe_op op_mod (pe_op op_fdivB (pv 1) pe_int) (pv 2)))))), ?_⟩
  refine rd_start (σ' := [some _, some _, none]) rfl ?_
  obtain ⟨qs, eq, aq⟩ := R.p
  have hq := aq.1
  walk_at "go"
  refine ⟨_, _, rfl, Rm.get_parts R, ?_⟩
  walk_at "go"
  refine ⟨_, _, rfl, .inl ⟨_, SqL.of eq, rfl⟩, ?_⟩
  rw [List.length_map, hq]
  generalize m.parts.length = k at hm q ⊢
  walk_at "go"
  refine iteD (fun c1 => ?_) (fun c1 => ?_)
  · walk_at "go"
    refine ⟨_, _, rfl, ?_⟩
    have e : 0 < (if (6 : Int) < (k : Int) then (6 : Int) else k) ∧ (if (6 : Int) < (k : Int) then (6 : Int) else k) ≤ k := by split <;> omega
    generalize (if (6 : Int) < (k : Int) then (6 : Int) else k) = w at e ⊢
    walk_at "go"
    have a0 := Int.emod_nonneg (n / 2) (show w ≠ 0 by omega)
    have a1 := Int.emod_lt_of_pos (n / 2) (show 0 < w by omega)
    exact Rm.int_nat q (by omega) (by omega)
  · walk_at "go"
    have a0 := Int.emod_nonneg (n / 2) (show (k : Int) ≠ 0 by omega)
    have a1 := Int.emod_lt_of_pos (n / 2) (show 0 < (k : Int) by omega)
    exact Rm.int_nat q (by omega) (by omega)
theorem ok__law_apart (T : Txt K mg t) (G__law_there : FnOk P w K mg base CX0 1 t.a__law_there t.d__law_there ["_law_room_here", "_law_number_here"] (Rm.sp_there)) : FnOk P w K mg base CX0 2 t.a__law_apart t.d__law_apart ["_law_room_here", "_law_some"] (Rm.sp_apart) := by
  refine T.F__law_apart.ok sc__law_apart (fun vs H Q E h => ?_) (fun cdv A outer s H vs Q E hr h => ?_)
  · obtain ⟨z, m, p, ns, rfl, R, G, hm, ml, hl, hn, hb, q⟩ := h
    rfl
  obtain ⟨z, m, p, ns, rfl, R, G, hm, ml, hl, hn, hb, q⟩ := h
  refine ⟨_, (pss_cons (ps_set (i := 2) sc__law_apart.nd rfl (.inl rfl) (pe_lst pa_nil))
    (pss_cons (ps_set (i := 3) sc__law_apart.nd rfl (.inr rfl) (pe_lst pa_nil))
    (pss_cons (ps_for PassesOwn.never rfl (pi_range1 (by rfl) T.b_range (pa_cons (pe_op op_add pe_int (pe_op op_mod (pe_ix ix_list (pv 1) pe_int (fun _ _ => rfl)) pe_int)) pa_nil)) (pg_name (i := 4) sc__law_apart.nd rfl (.inl rfl))
      (pss_cons (ps_set (i := 5) sc__law_apart.nd rfl (.inl rfl) (pe_call (G__law_there.mono (by decide)) hr (by rfl) T.m__law_there T.F__law_there.kp T.B__law_there .nil pass0 (pa_cons (pv 0) (pa_cons (pe_ix ix_list (pv 1) (pe_op op_add pe_int (pv 4)) (fun _ _ => rfl)) pa_nil))))
      (pss_one (ps_for PassesOwn.never rfl (pi_range1 (by rfl) T.b_range (pa_cons (pe_callB call_len (by rfl) T.b_len bt_len (pa_cons (pe_dget (hu_of hr) (pv 0) pe_str (fun _ _ => rfl)) pa_nil)) pa_nil)) (pg_name (i := 6) sc__law_apart.nd rfl (.inl rfl))
        (pss_cons (ps_set (i := 7) sc__law_apart.nd rfl (.inl rfl) (pe_op op_mod (pe_op op_add (pv 5) (pv 6)) (pe_callB call_len (by rfl) T.b_len bt_len (pa_cons (pe_dget (hu_of hr) (pv 0) pe_str (fun _ _ => rfl)) pa_nil))))
        (pss_cons (ps_set (i := 8) sc__law_apart.nd rfl (.inl rfl) (pe_ix ix_list (pe_dget (hu_of hr) (pv 0) pe_str (fun _ _ => rfl)) (pv 7) (fun _ _ => rfl)))
        (pss_one (ps_if (PW.pt (pw_and (pt_cmpR (op_neD hr.units) (pv 8) (pe_lst pa_nil) (nomark _)) (pw_and1 (pt_cmpR (op_eqD hr.units) (pe_comp (ow := ["_law_hand"]) (ci := [3]) rfl (CompScope.of (defScope s__law_apart) ["_law_room_here", "_law_some", "_law_there_here", "_law_hands", "_law_k", "_law_first", "_law_step", "_law_one", "_law_here"] rfl rfl (by decide +kernel)) (gk_name (by decide)) (pi_list (pv 8)) (fun _ _ _ _ _ => ⟨(pg_name (i := 0) (blk_nd ["_law_room_here", "_law_some", "_law_there_here", "_law_hands", "_law_k", "_law_first", "_law_step", "_law_one", "_law_here"] rfl (by decide +kernel)) rfl (.inl rfl)), (pf_one (pt_cmpR (op_in_seqK (K := K) rfl) (pv 0) (pv 1) (by with_unfolding_all rfl))), (pv 0)⟩)) (pe_lst pa_nil) (nomark _)))))
          (pss_cons (ps_expr (pe_bm PySem.F.plainAttrs_list PySem.F.slot_list_append PySem.F.type_list_append mt_append (pv 2) (pa_cons (pv 7) pa_nil)))
          (pss_cons (ps_set (i := 3) sc__law_apart.nd rfl (.inr rfl) (pe_op op_cat (pv 3) (pv 8)))
          (pss_one ps_break)))
          pss_nil))))))))
    (pss_one (ps_ret (pv 2)))))), ?_⟩
  refine rd_start (σ' := [some _, some _, none, none, none, none, none, none, none]) rfl ?_
  have sz : (200 : Nat) < sizeLine := by decide
  have c1 := hb.cell (k := 1) (by omega) (by omega)
  obtain ⟨ha, eha, aha⟩ := R.h
  walk_at "go"
  refine ⟨Nat.zero_le _, fun p0 hp0 => ?_⟩
  have s0 := Pr.same_new hp0 (.lst [])
  have t0 : upd H p0 (.lst []) p0 = some (.lst []) := upd_same
  generalize upd H p0 (.lst []) = H0 at s0 t0 ⊢
  walk_at "go"
  refine ⟨Nat.zero_le _, fun p1 hp1 => ?_⟩
  have s1 := Pr.same_new hp1 (.lst [])
  have t1 : upd H0 p1 (.lst []) p1 = some (.lst []) := upd_same
  have t01 := s1 _ _ t0
  generalize upd H0 p1 (.lst []) = H1 at s1 t1 t01 ⊢
  have s2 := s0.trans s1
  walk_at "go"
  refine ⟨p, _, _, _, rfl, rfl, SqL.of (s2 _ _ hl), Pr.at_cell (by omega) (by omega), ?_⟩
  walk_at "go"
  refine ⟨_, rfl, by omega, by omega, ?_⟩
  refine for_range (fun i σ H' => ∃ (o4 o5 o6 o7 o8 : Option V) (ph : Addr) (is : List Nat) (hs : List Int), σ = [some (.ref z.r), some (.ref p), some (.ref p0), some (.ref ph), o4, o5, o6, o7, o8] ∧ Same H H' ∧ H' p0 = some (.lst (is.map Rm.vN)) ∧ H' ph = some (.lst (hs.map V.int)) ∧ p0 ≠ ph ∧ is.length ≤ i ∧ hs.length ≤ 8 * i ∧ (∀ j ∈ is, j < m.parts.length) ∧ Rm.Apart m is ∧ ∀ j ∈ is, ∀ k ∈ m.hd j, k ∈ hs)
    ⟨_, _, _, _, _, p1, [], [], rfl, s2, t01, t1, ne_of_none t0 hp1, Nat.le_refl _, Nat.le_refl _, (fun j h => nomatch h), ⟨(fun j h => nomatch h), .nil⟩, (fun j h => nomatch h)⟩ ?_ ?_
  · rintro i σ H' hi ⟨o4, o5, o6, o7, o8, ph, is, hs, rfl, sm, e0, e1, n01, hil, hhl, hlt, hap, hin⟩
    have hi' : i < 4 := by omega
    have Ri := R.keeps sm
    have ck := hb.cell (k := 2 + (0 + (i : Int))) (by omega) (by omega)
    obtain ⟨qs, eqs, aq⟩ := Ri.p
    have hq := aq.1
    walk_at "go"
    refine ⟨p, _, _, _, rfl, rfl, SqL.of (sm _ _ hl), Pr.at_cell (by omega) (by omega), ?_⟩
    walk_at "go"
    refine ⟨z, m, _, rfl, Ri, hm, by omega, fun f hf => ?_⟩
    walk_at "go"
    refine ⟨_, _, rfl, Rm.get_parts Ri, ?_⟩
    walk_at "go"
    refine ⟨_, _, rfl, .inl ⟨_, SqL.of eqs, rfl⟩, ?_⟩
    rw [List.length_map, hq]
    walk_at "go"
    refine ⟨_, rfl, by omega, by omega, ?_⟩
    refine for_range (fun _ σ H2 => ∃ (o6 o7 o8 : Option V), σ = [some (.ref z.r), some (.ref p), some (.ref p0), some (.ref ph), some (.int (0 + (i : Int))), some (.int (f : Int)), o6, o7, o8] ∧ Same H' H2) ⟨_, _, _, rfl, Same.refl _⟩ ?_ ?_
    · rintro i2 σ H2 hi2 ⟨o6, o7, o8, rfl, sm2⟩
      have R2 := Ri.keeps sm2
      walk_at "go"
      refine ⟨_, _, rfl, Rm.get_parts R2, ?_⟩
      walk_at "go"
      refine ⟨_, _, rfl, .inl ⟨_, SqL.of (sm2 _ _ eqs), rfl⟩, ?_⟩
      rw [List.length_map, hq]
      walk_at "go"
      have a0 := Int.emod_nonneg ((f : Int) + (0 + (i2 : Int))) (show (m.parts.length : Int) ≠ 0 by omega)
      have a1 := Int.emod_lt_of_pos ((f : Int) + (0 + (i2 : Int))) (show 0 < (m.parts.length : Int) by omega)
      obtain ⟨j, ej⟩ : ∃ j : Nat, ((f : Int) + (0 + (i2 : Int))) % (m.parts.length : Int) = (j : Int) := ⟨_, (Int.toNat_of_nonneg a0).symm⟩
      rw [ej] at a0 a1 ⊢
      have hj : j < m.parts.length := by omega
      obtain ⟨a, ha1, ha2, ha3⟩ := Rm.hand_at R G hj eha
      have ha22 := sm2 _ _ (sm _ _ ha2)
      refine ⟨_, _, rfl, Rm.get_hands R2, ?_⟩
      walk_at "go"
      refine ⟨_, _, _, _, rfl, rfl, SqL.of (sm2 _ _ (sm _ _ eha)), Rm.at_refI (i := (j : Int)) (by omega) ha1, ?_⟩
      walk_at "go"
      refine ⟨Nat.zero_le _, fun p3 hp3 => ?_⟩
      have s3 := Pr.same_new hp3 (.lst [])
      have t3 : upd H2 p3 (.lst []) p3 = some (.lst []) := upd_same
      generalize upd H2 p3 (.lst []) = H3 at s3 t3 ⊢
      refine ⟨_, _, Rm.dv_il (s3 _ _ ha22), Rm.dv_e t3, Rm.shp _, Rm.shp0, ?_⟩
      rw [Rm.eqv_e]
      walk_at "go"
      refine iteN (fun d1 => ?_) (fun d1 => ?_)
      · walk_at "go"
        have hj8 := Rm.hd_len G hj
        have ha33 := s3 _ _ ha22
        have e13 := s3 _ _ (sm2 _ _ e1)
        refine ⟨a, rfl, ⟨_, SqL.of ha33⟩, ?_⟩
        refine comp_list (xs := (m.hd j).map V.int) (fun i ys H' => ys = (((m.hd j).take i).filter fun k => decide (k ∈ hs)).map V.int ∧ H3 = H') ⟨rfl, rfl⟩ ?_ ?_ ?_
        · rintro i ys H' _ ⟨rfl, rfl⟩
          exact SqL.of ha33
        · rintro i x ys H' hx ⟨rfl, rfl⟩
          rw [List.getElem?_map] at hx
          obtain ⟨n, hn', rfl⟩ := Option.map_eq_some_iff.mp hx
          have hi := (List.getElem?_eq_some_iff.mp hn').1
          refine rd_cap (σ' := [none, some _]) rfl ?_
          walk_at "go"
          refine ⟨ph, _, rfl, .inl (SqL.of e13), rfl, Rm.flats hs, ?_⟩
          rw [Rm.inI]
          walk_at "go"
          have hle : (((m.hd j).take i).filter fun k => decide (k ∈ hs)).length ≤ 8 := Nat.le_trans (List.length_filter_le _ _) (Nat.le_trans (List.length_take_le' _ _) hj8)
          refine iteD (fun d2 => ?_) (fun d2 => ?_)
          · walk_at "go"
            refine ⟨by rw [List.length_map]; omega, ?_, rfl⟩
            rw [Rm.take_snoc hn', List.filter_append, List.map_append, List.filter_cons, if_pos (decide_eq_true d2)]
            rfl
          · refine ⟨?_, rfl⟩
            rw [Rm.take_snoc hn', List.filter_append, List.map_append, List.filter_cons, if_neg (by simpa using d2)]
            exact (List.append_nil _).symm
        · rintro ys H' ⟨rfl, rfl⟩
          rw [show ((m.hd j).map V.int).length = (m.hd j).length from List.length_map _, List.take_length]
          have hle : ((m.hd j).filter fun k => decide (k ∈ hs)).length ≤ 8 := Nat.le_trans (List.length_filter_le _ _) hj8
          refine ⟨by rw [List.length_map]; omega, fun p4 hp4 => ?_⟩
          have s4 := Pr.same_new hp4 (.lst (((m.hd j).filter fun k => decide (k ∈ hs)).map V.int))
          have t4 : upd H3 p4 (.lst (((m.hd j).filter fun k => decide (k ∈ hs)).map V.int)) p4 = some (.lst (((m.hd j).filter fun k => decide (k ∈ hs)).map V.int)) := upd_same
          generalize upd H3 p4 (.lst (((m.hd j).filter fun k => decide (k ∈ hs)).map V.int)) = H4 at s4 t4 ⊢
          walk_at "go"
          refine ⟨Nat.zero_le _, fun p5 hp5 => ?_⟩
          have s5 := Pr.same_new hp5 (.lst [])
          have t5 : upd H4 p5 (.lst []) p5 = some (.lst []) := upd_same
          generalize upd H4 p5 (.lst []) = H5 at s5 t5 ⊢
          refine ⟨_, _, Rm.dv_il (s5 _ _ t4), Rm.dv_e t5, Rm.shp _, Rm.shp0, ?_⟩
          rw [Rm.eqv_e]
          walk_at "go"
          have s35 := s3.trans (s4.trans s5)
          have smm := sm.trans (sm2.trans s35)
          refine iteD (fun d2 => ?_) (fun d2 => ?_)
          · have e05 := s35 _ _ (sm2 _ _ e0)
            have e15 := s35 _ _ (sm2 _ _ e1)
            have ha5 := smm _ _ ha2
            walk_at "go"
            refine ⟨.inl ⟨rfl, _, SqL.of e05⟩, ?_⟩
            walk_at "go"
            refine ⟨p0, _, _, rfl, rfl, e05, by rw [List.length_map]; omega, ?_⟩
            have s6 : Same H (upd H5 p0 (.lst (is.map Rm.vN ++ [.int (j : Int)]))) := Ws.same_upd smm hp0
            have e06 : upd H5 p0 (.lst (is.map Rm.vN ++ [.int (j : Int)])) p0 = some (.lst ((is ++ [j]).map Rm.vN)) := by rw [upd_same, List.map_append]; rfl
            have e16 : upd H5 p0 (.lst (is.map Rm.vN ++ [.int (j : Int)])) ph = _ := (upd_ne n01.symm).trans e15
            have ha6 := s6 _ _ ha2
            generalize upd H5 p0 (.lst (is.map Rm.vN ++ [.int (j : Int)])) = H6 at s6 e06 e16 ha6 ⊢
            walk_at "go"
            refine ⟨ph, a, _, _, rfl, rfl, e16, ha6, by rw [List.length_map, List.length_map]; omega, fun p7 hp7 => ?_⟩
            have s7 := Pr.same_new hp7 (.lst (hs.map V.int ++ (m.hd j).map V.int))
            have e17 : upd H6 p7 (.lst (hs.map V.int ++ (m.hd j).map V.int)) p7 = some (.lst ((hs ++ m.hd j).map V.int)) := by rw [upd_same, List.map_append]
            generalize upd H6 p7 (.lst (hs.map V.int ++ (m.hd j).map V.int)) = H7 at s7 e17 ⊢
            walk_at "go"
            refine ⟨_, _, _, _, _, p7, is ++ [j], hs ++ m.hd j, rfl, s6.trans s7, s7 _ _ e06, e17, ne_of_none e06 hp7, by rw [List.length_append, List.length_singleton]; omega, by rw [List.length_append]; omega, fun x hx => ?_, hap.snoc hin d1 fun k hk hk' => ?_, fun x hx k hk => ?_⟩
            · rcases List.mem_append.mp hx with e | e
              · exact hlt x e
              · have e' : x = j := by simpa using e
                omega
            · have : k ∈ (m.hd j).filter fun k => decide (k ∈ hs) := List.mem_filter.mpr ⟨hk, decide_eq_true hk'⟩
              rw [d2] at this
              cases this
            · rcases List.mem_append.mp hx with e | e
              · exact List.mem_append_left _ (hin x e k hk)
              · have e' : x = j := by simpa using e
                subst e'
                exact List.mem_append_right _ hk
          · exact ⟨_, _, _, rfl, sm2.trans s35⟩
      · refine iteF ?_
        exact ⟨_, _, _, rfl, sm2.trans s3⟩
    · rintro σ H2 ⟨o6, o7, o8, rfl, sm2⟩
      walk_at "go"
      exact ⟨_, _, _, _, _, ph, is, hs, rfl, sm.trans sm2, sm2 _ _ e0, sm2 _ _ e1, n01, by omega, by omega, hlt, hap, hin⟩
  · rintro σ H' ⟨o4, o5, o6, o7, o8, ph, is, hs, rfl, sm, e0, e1, n01, hil, hhl, hlt, hap, hin⟩
    walk_at "go"
    exact q p0 is H' sm hp0 e0 (by omega) hlt hap
theorem ok__law_naming (T : Txt K mg t) (G__law_window : FnOk P w K mg base CX0 1 t.a__law_window t.d__law_window ["_law_cell", "_law_turn"] (Rm.sp_window)) (G__law_number : FnOk P w K mg base CX0 1 t.a__law_number t.d__law_number ["_law_cell", "_law_mixed", "_law_least"] (Rm.sp_number)) (G__law_add : FnOk P w K mg base CX0 1 t.a__law_add t.d__law_add ["_law_room_here", "_law_form", "_law_hands", "_law_long"] (Rm.sp_add)) (G__law_simple : FnOk P w K mg base CX0 2 t.a__law_simple t.d__law_simple ["_law_room_here", "_law_cell", "_law_some"] (Rm.sp_simple)) (G__law_there : FnOk P w K mg base CX0 1 t.a__law_there t.d__law_there ["_law_room_here", "_law_number_here"] (Rm.sp_there)) (G__law_apart : FnOk P w K mg base CX0 2 t.a__law_apart t.d__law_apart ["_law_room_here", "_law_some"] (Rm.sp_apart)) : FnOk P w K mg base CX0 3 t.a__law_naming t.d__law_naming ["_law_room_here", "_law_cell", "_law_some"] (Rm.sp_naming) := by
  refine T.F__law_naming.ok sc__law_naming (fun vs H Q E h => ?_) (fun cdv A outer s H vs Q E hr h => ?_)
  · obtain ⟨z, m, c, p, ns, rfl, R, G, hm, ml, hl, op, hn, hb, q⟩ := h
    rfl
  obtain ⟨z, m, c, p, ns, rfl, R, G, hm, ml, hl, op, hn, hb, q⟩ := h
  refine ⟨_, (pss_cons (ps_setC (i := 3) (ow := ["_law_one"]) (ci := [0]) rfl (CompScope.of (defScope s__law_naming) ["_law_room_here", "_law_cell", "_law_some", "_law_there_here", "_law_long", "_law_hands", "_law_one", "_law_names_here", "_law_times"] rfl rfl (by decide +kernel)) (gk_name (by decide)) sc__law_naming.nd rfl (.inl rfl) (pi_list (pe_slice sl_list (pv 2) (po_some pe_int) (po_some (pe_op op_add pe_int (pe_op op_mod (pe_ix ix_list (pv 2) pe_int (fun _ _ => rfl)) pe_int))))) (fun _ _ _ _ _ => ⟨(pg_name (i := 0) (blk_nd ["_law_room_here", "_law_cell", "_law_some", "_law_there_here", "_law_long", "_law_hands", "_law_one", "_law_names_here", "_law_times"] rfl (by decide +kernel)) rfl (.inl rfl)), pf_nil, (pe_call (G__law_there.mono (by decide)) hr (by rfl) T.m__law_there T.F__law_there.kp T.B__law_there .nil pass0 (pa_cons (pv 1) (pa_cons (pv 0) pa_nil)))⟩))
    (pss_cons (ps_ifJ (pt_cmpR op_eq (pe_op op_mod (pe_ix ix_list (pv 2) pe_int (fun _ _ => rfl)) pe_int) pe_int (nomark _))
      (pss_cons (ps_set (i := 3) sc__law_naming.nd rfl (.inl rfl) (pe_call (G__law_apart.mono (by decide)) hr (by rfl) T.m__law_apart T.F__law_apart.kp T.B__law_apart .nil pass0 (pa_cons (pv 0) (pa_cons (pv 2) pa_nil))))
      (pss_one (ps_if (pt_cmpR op_lt (pe_callB call_len (by rfl) T.b_len bt_len (pa_cons (pv 3) pa_nil)) pe_int (nomark _))
        (pss_cons (ps_expr (pe_call (G__law_simple.mono (by decide)) hr (by rfl) T.m__law_simple T.F__law_simple.kp T.B__law_simple .nil pass0 (pa_cons (pv 0) (pa_cons (pv 1) (pa_cons (pv 2) pa_nil)))))
        (pss_one ps_retN))
        pss_nil)))
      pss_nil)
    (pss_cons (ps_setC (i := 4) (ow := ["_law_one"]) (ci := [0]) rfl (CompScope.of (defScope s__law_naming) ["_law_room_here", "_law_cell", "_law_some", "_law_there_here", "_law_long", "_law_hands", "_law_one", "_law_names_here", "_law_times"] rfl rfl (by decide +kernel)) (gk_name (by decide)) sc__law_naming.nd rfl (.inl rfl) (pi_list (pv 3)) (fun _ _ _ _ _ => ⟨(pg_name (i := 0) (blk_nd ["_law_room_here", "_law_cell", "_law_some", "_law_there_here", "_law_long", "_law_hands", "_law_one", "_law_names_here", "_law_times"] rfl (by decide +kernel)) rfl (.inl rfl)), pf_nil, (pe_ix (ix_listK (K := K) rfl) (pe_dget (hu_of hr) (pv 1) pe_str (fun _ _ => rfl)) (pv 0) (fun _ _ => rfl))⟩))
    (pss_cons (ps_ifJ (PW.pt (pw_and (pt_cmpR op_eq (pe_op op_mod (pe_ix ix_list (pv 2) pe_int (fun _ _ => rfl)) pe_int) pe_int (nomark _)) (pw_and1 (pt_cmpR op_gt (pe_callB (call_sumL rfl) (by rfl) T.b_sum bt_sum (pa_cons (pv 4) pa_nil)) (pe_op op_pow pe_int pe_int) (nomark _)))))
      (pss_cons (ps_set (i := 3) sc__law_naming.nd rfl (.inl rfl) (pe_slice sl_list (pv 3) po_none (po_some pe_int)))
      (pss_one (ps_set (i := 4) sc__law_naming.nd rfl (.inl rfl) (pe_slice sl_list (pv 4) po_none (po_some pe_int)))))
      pss_nil)
    (pss_cons (ps_set (i := 5) sc__law_naming.nd rfl (.inr rfl) (pe_lst pa_nil))
    (pss_cons (ps_for PassesOwn.never rfl (pi_list (pv 3)) (pg_name (i := 6) sc__law_naming.nd rfl (.inl rfl))
      (pss_one (ps_set (i := 5) sc__law_naming.nd rfl (.inr rfl) (pe_op op_cat (pv 5) (pe_comp (ow := ["_law_hand"]) (ci := [5]) rfl (CompScope.of (defScope s__law_naming) ["_law_room_here", "_law_cell", "_law_some", "_law_there_here", "_law_long", "_law_hands", "_law_one", "_law_names_here", "_law_times"] rfl rfl (by decide +kernel)) (gk_name (by decide)) (pi_list (pe_ix ix_list (pe_dget (hu_of hr) (pv 0) pe_str (fun _ _ => rfl)) (pv 6) (fun _ _ => rfl))) (fun _ _ _ _ _ => ⟨(pg_name (i := 0) (blk_nd ["_law_room_here", "_law_cell", "_law_some", "_law_there_here", "_law_long", "_law_hands", "_law_one", "_law_names_here", "_law_times"] rfl (by decide +kernel)) rfl (.inl rfl)), (pf_one (pt_cmpR (op_notIn_seqK (K := K) rfl) (pv 0) (pv 1) (by with_unfolding_all rfl))), (pv 0)⟩))))))
    (pss_cons (ps_set (i := 7) sc__law_naming.nd rfl (.inl rfl) (pe_callTy call_tuple_of (by rfl) T.b_tuple bt_tuple (pa_cons (pe_comp (ow := ["_law_one"]) (ci := [0]) rfl (CompScope.of (defScope s__law_naming) ["_law_room_here", "_law_cell", "_law_some", "_law_there_here", "_law_long", "_law_hands", "_law_one", "_law_names_here", "_law_times"] rfl rfl (by decide +kernel)) (gk_name (by decide)) (pi_list (pv 3)) (fun _ _ _ _ _ => ⟨(pg_name (i := 0) (blk_nd ["_law_room_here", "_law_cell", "_law_some", "_law_there_here", "_law_long", "_law_hands", "_law_one", "_law_names_here", "_law_times"] rfl (by decide +kernel)) rfl (.inl rfl)), pf_nil, (pe_ix (ix_tupK (K := K) rfl) (pe_ix (ix_listK (K := K) rfl) (pe_dget (hu_of hr) (pv 1) pe_str (fun _ _ => rfl)) (pv 0) (fun _ _ => rfl)) pe_int (fun _ _ => rfl))⟩)) pa_nil)))
    (pss_one (ps_if (pt_cmpR op_eq (pe_op op_mod (pe_ix ix_list (pv 2) pe_int (fun _ _ => rfl)) pe_int) pe_int (nomark _))
      (pss_one (ps_expr (pe_call (G__law_add.mono (by decide)) hr (by rfl) T.m__law_add T.F__law_add.kp T.B__law_add .nil pass0 (pa_cons (pv 0) (pa_cons (pe_tup (pa_cons pe_str (pa_cons (pv 7) pa_nil))) (pa_cons (pe_callB call_sortedI (by rfl) T.b_sorted bt_sorted (pa_cons (pv 5) pa_nil)) (pa_cons (pe_callB (call_sumL rfl) (by rfl) T.b_sum bt_sum (pa_cons (pv 4) pa_nil)) pa_nil)))))))
      (pss_one (ps_if (pt_cmpR op_eq (pe_op op_mod (pe_ix ix_list (pv 2) pe_int (fun _ _ => rfl)) pe_int) pe_int (nomark _))
        (pss_one (ps_expr (pe_call (G__law_add.mono (by decide)) hr (by rfl) T.m__law_add T.F__law_add.kp T.B__law_add .nil pass0 (pa_cons (pv 0) (pa_cons (pe_tup (pa_cons pe_str (pa_cons (pv 7) pa_nil))) (pa_cons (pe_callB call_sortedI (by rfl) T.b_sorted bt_sorted (pa_cons (pv 5) pa_nil)) (pa_cons (pe_callB (call_maxL rfl) (by rfl) T.b_max bt_max (pa_cons (pv 4) pa_nil)) pa_nil)))))))
        (pss_cons (ps_set (i := 8) sc__law_naming.nd rfl (.inl rfl) (pe_call (G__law_number.mono (by decide)) hr (by rfl) T.m__law_number T.F__law_number.kp T.B__law_number .nil pass0 (pa_cons (pe_call (G__law_window.mono (by decide)) hr (by rfl) T.m__law_window T.F__law_window.kp T.B__law_window .nil pass0 (pa_cons (pv 1) (pa_cons pe_int pa_nil))) (pa_cons (pe_ix ix_list (pv 2) pe_int (fun _ _ => rfl)) (pa_cons pe_int pa_nil)))))
        (pss_cons (ps_ifJ (pt_cmpR op_gt (pe_op op_mulB (pv 8) (pe_ix ix_list (pv 4) pe_int (fun _ _ => rfl))) (pe_op op_pow pe_int pe_int) (nomark _))
          (pss_one (ps_set (i := 8) sc__law_naming.nd rfl (.inl rfl) pe_int))
          pss_nil)
        (pss_one (ps_expr (pe_call (G__law_add.mono (by decide)) hr (by rfl) T.m__law_add T.F__law_add.kp T.B__law_add .nil pass0 (pa_cons (pv 0) (pa_cons (pe_tup (pa_cons pe_str (pa_cons (pv 8) (pa_cons (pe_ix ix_tup (pv 7) pe_int (fun _ _ => rfl)) pa_nil)))) (pa_cons (pe_ix ix_list (pe_dget (hu_of hr) (pv 0) pe_str (fun _ _ => rfl)) (pe_ix ix_list (pv 3) pe_int (fun _ _ => rfl)) (fun _ _ => rfl)) (pa_cons (pe_op op_mulB (pv 8) (pe_ix ix_list (pv 4) pe_int (fun _ _ => rfl))) pa_nil)))))))))))))))))))), ?_⟩
  refine rd_start (σ' := [some _, some _, some _, none, none, none, none, none, none]) rfl ?_
  have sz : (200 : Nat) < sizeLine := by decide
  have nl := G.nl
  have c0 := hb.cell (k := 0) (by omega) (by omega)
  have c1 := hb.cell (k := 1) (by omega) (by omega)
  walk_at "go"
  refine ⟨p, _, _, _, rfl, rfl, SqL.of hl, Pr.at_cell (by omega) (by omega), ?_⟩
  walk_at "go"
  refine ⟨p, _, rfl, SqL.of hl, fun p1 hp1 => ?_⟩
  rw [Rm.cut_mid (by omega) (by omega)]
  have hml : ((ns.drop 2).take (3 + Pr.cell ns 1 % 8 - 2).toNat).length = (1 + Pr.cell ns 1 % 8).toNat := by rw [List.length_take, List.length_drop]; omega
  have hmb : ∀ n ∈ (ns.drop 2).take (3 + Pr.cell ns 1 % 8 - 2).toNat, 0 ≤ n := fun n h => (hb n (List.mem_of_mem_drop (List.mem_of_mem_take h))).1
  generalize (ns.drop 2).take (3 + Pr.cell ns 1 % 8 - 2).toNat = ms at hml hmb ⊢
  have s1 := Pr.same_new hp1 (.lst (ms.map V.int))
  have t1 : upd H p1 (.lst (ms.map V.int)) p1 = some (.lst (ms.map V.int)) := upd_same
  generalize upd H p1 (.lst (ms.map V.int)) = H1 at s1 t1 ⊢
  have R1 := R.keeps s1
  refine ⟨p1, rfl, ⟨_, SqL.of t1⟩, ?_⟩
  refine comp_list (xs := ms.map V.int) (fun i ys H' => ∃ is : List Nat, ys = is.map Rm.vN ∧ is.length = i ∧ (∀ j ∈ is, j < m.parts.length) ∧ H1 = H') ⟨[], rfl, rfl, (fun z h => nomatch h), rfl⟩ ?_ ?_ ?_
  · rintro i ys H' _ ⟨is, rfl, hz, h1, rfl⟩
    exact SqL.of t1
  · rintro i x ys H' hx ⟨is, rfl, hz, h1, rfl⟩
    obtain ⟨n, hn', rfl⟩ := List.mem_map.mp (List.mem_of_getElem? hx)
    have hi := (List.getElem?_eq_some_iff.mp hx).1
    rw [List.length_map] at hi
    refine rd_cap (σ' := [none, some _]) rfl ?_
    walk_at "go"
    refine iteT ?_
    walk_at "go"
    refine ⟨z, m, n, rfl, R1, hm, hmb n hn', fun j hj => ?_⟩
    refine ⟨by rw [List.length_map]; omega, is ++ [j], by rw [List.map_append]; rfl, by simp [hz], fun y hy => ?_, rfl⟩
    rcases List.mem_append.mp hy with w | w
    · exact h1 y w
    · have e : y = j := by simpa using w
      omega
  rintro ys H' ⟨is, rfl, hil, hlt, rfl⟩
  rw [List.length_map] at hil
  refine ⟨by rw [List.length_map]; omega, fun p2 hp2 => ?_⟩
  have s2 := s1.trans (Pr.same_new hp2 (.lst (is.map Rm.vN)))
  have t2 : upd H1 p2 (.lst (is.map Rm.vN)) p2 = some (.lst (is.map Rm.vN)) := upd_same
  generalize upd H1 p2 (.lst (is.map Rm.vN)) = H2 at s2 t2 ⊢
  have R2 := R.keeps s2
  walk_at "go"
  refine ⟨fun σ' H' => ∃ (l : Addr) (is : List Nat), σ' = [some (.ref z.r), some (.int c), some (.ref p), some (.ref l), none, none, none, none, none] ∧ Same H H' ∧ H' l = some (.lst (is.map Rm.vN)) ∧ 1 ≤ is.length ∧ is.length ≤ 8 ∧ (∀ j ∈ is, j < m.parts.length) ∧ (Pr.cell ns 0 % 8 = 6 → Rm.Apart m is ∧ 2 ≤ is.length ∧ is.length ≤ 4), ?_, ?_⟩
  rotate_left
  · walk_at "go"
    refine ⟨p, _, _, _, rfl, rfl, SqL.of (s2 _ _ hl), Pr.at_cell (by omega) (by omega), ?_⟩
    walk_at "go"
    refine iteD (fun d1 => ?_) (fun d1 => ?_)
    · walk_at "go"
      refine ⟨z, m, p, ns, rfl, R2, G, hm, ml, s2 _ _ hl, by omega, hb, fun l js H3 s3 hl3 e3 h4 hj ap => ?_⟩
      walk_at "go"
      refine ⟨_, _, rfl, .inl ⟨_, SqL.of e3, rfl⟩, ?_⟩
      rw [List.length_map]
      walk_at "go"
      refine iteD (fun d2 => ?_) (fun d2 => ?_)
      · walk_at "go"
        refine ⟨z, m, c, p, ns, rfl, R2.keeps s3, G, by omega, s3 _ _ (s2 _ _ hl), op, by omega, hb, fun m' H' k R' G' hl' => ?_⟩
        walk_at "go"
        exact q m' H' ((Rm.Kp.of (s2.trans s3)).trans k) R' G' hl'
      · walk_at "go"
        exact ⟨l, js, rfl, s2.trans s3, e3, by omega, by omega, hj, fun _ => ⟨ap, by omega, h4⟩⟩
    · walk_at "go"
      exact ⟨p2, is, rfl, s2, t2, by omega, by omega, hlt, fun e => absurd e d1⟩
  rintro σ' H3 ⟨l, is, rfl, s3, e3, i1, i8, hj, ap⟩
  clear hlt hil t2 s2 R2 hp2 p2 H2 t1 R1 s1
  have R3 := R.keeps s3
  walk_at "go"
  refine ⟨l, rfl, ⟨_, SqL.of e3⟩, ?_⟩
  refine comp_list (xs := is.map Rm.vN) (fun i ys H' => ys = ((is.take i).map m.lg).map V.int ∧ H3 = H') ⟨rfl, rfl⟩ ?_ ?_ ?_
  · rintro i ys H' _ ⟨rfl, rfl⟩
    exact SqL.of e3
  · rintro i x ys H' hx ⟨rfl, rfl⟩
    obtain ⟨j, hj1, rfl, hj2⟩ := Rm.vN_at hx
    have hi := (List.getElem?_eq_some_iff.mp hj1).1
    refine rd_cap (σ' := [none, some _]) rfl ?_
    walk_at "go"
    refine iteT ?_
    walk_at "go"
    refine ⟨_, _, rfl, Rm.get_long R3, ?_⟩
    walk_at "go"
    refine ⟨_, _, _, _, rfl, rfl, SqL.of R3.g, Rm.long_at G (hj j hj2), ?_⟩
    refine ⟨by rw [List.length_map, List.length_map, List.length_take]; omega, ?_, rfl⟩
    rw [Rm.take_snoc hj1, List.map_append, List.map_append]
    rfl
  rintro ys H' ⟨rfl, rfl⟩
  rw [show (is.map Rm.vN).length = is.length from List.length_map _, List.take_length]
  refine ⟨by rw [List.length_map, List.length_map]; omega, fun p4 hp4 => ?_⟩
  have s4 := s3.trans (Pr.same_new hp4 (.lst ((is.map m.lg).map V.int)))
  have e34 := Pr.same_new hp4 (.lst ((is.map m.lg).map V.int)) _ _ e3
  have t4 : upd H3 p4 (.lst ((is.map m.lg).map V.int)) p4 = some (.lst ((is.map m.lg).map V.int)) := upd_same
  generalize upd H3 p4 (.lst ((is.map m.lg).map V.int)) = H4 at s4 e34 t4 ⊢
  walk_at "go"
  refine ⟨fun σ' H' => ∃ (l g : Addr) (is : List Nat), σ' = [some (.ref z.r), some (.int c), some (.ref p), some (.ref l), some (.ref g), none, none, none, none] ∧ Same H H' ∧ H' l = some (.lst (is.map Rm.vN)) ∧ H' g = some (.lst ((is.map m.lg).map V.int)) ∧ 1 ≤ is.length ∧ is.length ≤ 8 ∧ (∀ j ∈ is, j < m.parts.length) ∧ (Pr.cell ns 0 % 8 = 6 → Rm.Apart m is ∧ 2 ≤ is.length ∧ is.length ≤ 4) ∧ (Pr.cell ns 0 % 8 = 5 → (is.map m.lg).sum ≤ 10 ^ 60), ?_, ?_⟩
  rotate_left
  · walk_at "go"
    refine ⟨p, _, _, _, rfl, rfl, SqL.of (s4 _ _ hl), Pr.at_cell (by omega) (by omega), ?_⟩
    walk_at "go"
    refine iteD (fun d1 => ?_) (fun d1 => ?_)
    · walk_at "go"
      refine ⟨_, _, rfl, SqL.of t4, ?_⟩
      walk_at "go"
      refine iteD (fun d2 => ?_) (fun d2 => ?_)
      · walk_at "go"
        refine ⟨l, _, rfl, SqL.of e34, fun p5 hp5 => ?_⟩
        rw [Rm.cut1]
        have s5 := Pr.same_new hp5 (.lst ((is.map Rm.vN).take 1))
        have t5 : upd H4 p5 (.lst ((is.map Rm.vN).take 1)) p5 = some (.lst ((is.take 1).map Rm.vN)) := by rw [upd_same, List.map_take]
        generalize upd H4 p5 (.lst ((is.map Rm.vN).take 1)) = H5 at s5 t5 ⊢
        walk_at "go"
        refine ⟨p4, _, rfl, SqL.of (s5 _ _ t4), fun p6 hp6 => ?_⟩
        rw [Rm.cut1]
        have s6 := Pr.same_new hp6 (.lst (((is.map m.lg).map V.int).take 1))
        have t6 : upd H5 p6 (.lst (((is.map m.lg).map V.int).take 1)) p6 = some (.lst (((is.take 1).map m.lg).map V.int)) := by rw [upd_same, List.map_take, List.map_take]
        generalize upd H5 p6 (.lst (((is.map m.lg).map V.int).take 1)) = H6 at s6 t6 ⊢
        walk_at "go"
        have e1 : (is.take 1).length = 1 := by rw [List.length_take]; omega
        have hj' : ∀ j ∈ is.take 1, j < m.parts.length := fun j h => hj j (List.mem_of_mem_take h)
        have e2 := (Rm.sum_lg G hj').2
        rw [e1] at e2
        exact ⟨p5, p6, is.take 1, rfl, s4.trans (s5.trans s6), s6 _ _ t5, t6, by omega, by omega, hj', fun e => by omega, fun _ => by omega⟩
      · walk_at "go"
        exact ⟨l, p4, is, rfl, s4, e34, t4, i1, i8, hj, ap, fun _ => by omega⟩
    · refine iteF ?_
      walk_at "go"
      exact ⟨l, p4, is, rfl, s4, e34, t4, i1, i8, hj, ap, fun e => absurd e d1⟩
  clear t4 e34 s4 hp4 p4 H4 R3 i1 i8 hj ap e3 s3 l is H3
  rintro σ' H5 ⟨l, g, is, rfl, s5, e5, t5, i1, i8, hj, ap, sm⟩
  have R5 := R.keeps s5
  walk_at "go"
  refine ⟨Nat.zero_le _, fun p6 hp6 => ?_⟩
  have s6 := s5.trans (Pr.same_new hp6 (.lst []))
  have e6 := Pr.same_new hp6 (.lst []) _ _ e5
  have g6 := Pr.same_new hp6 (.lst []) _ _ t5
  have t6 : upd H5 p6 (.lst []) p6 = some (.lst []) := upd_same
  generalize upd H5 p6 (.lst []) = H6 at s6 e6 g6 t6 ⊢
  walk_at "go"
  obtain ⟨ha, eha, aha⟩ := R.h
  refine ⟨l, rfl, ⟨_, SqL.of e6⟩, ?_⟩
  refine for_list (xs := is.map Rm.vN) (fun i σ H' => ∃ (h : Addr) (hs : List Int) (o6 : Option V), σ = [some (.ref z.r), some (.int c), some (.ref p), some (.ref l), some (.ref g), some (.ref h), o6, none, none] ∧ Same H6 H' ∧ H' h = some (.lst (hs.map V.int)) ∧ hs.length ≤ 8 * i ∧ hs.Nodup ∧ ∀ k, k ∈ hs ↔ ∃ j ∈ is.take i, k ∈ m.hd j)
    ⟨p6, [], none, rfl, Same.refl _, t6, Nat.zero_le _, .nil, fun k => ⟨(fun h => nomatch h), fun ⟨j, h, _⟩ => by simp at h⟩⟩ ?_ ?_ ?_
  · rintro i σ H' _ ⟨h, hs, o6, rfl, sm7, th, hl8, hnd, hmem⟩
    exact SqL.of (sm7 _ _ e6)
  · rintro i x σ H' hx ⟨h, hs, o6, rfl, sm7, th, hl8, hnd, hmem⟩
    obtain ⟨j, hj1, rfl, hj2⟩ := Rm.vN_at hx
    have hi := (List.getElem?_eq_some_iff.mp hj1).1
    have s7 := s6.trans sm7
    have R7 := R.keeps s7
    have hj8 := Rm.hd_len G (hj j hj2)
    obtain ⟨a, ha1, ha2, ha3⟩ := Rm.hand_at R G (hj j hj2) eha
    have ha7 := s7 _ _ ha2
    walk_at "go"
    refine ⟨_, _, rfl, Rm.get_hands R7, ?_⟩
    walk_at "go"
    refine ⟨_, _, _, _, rfl, rfl, SqL.of (s7 _ _ eha), Rm.at_refI (i := (j : Int)) (by omega) ha1, ?_⟩
    refine ⟨a, rfl, ⟨_, SqL.of ha7⟩, ?_⟩
    refine comp_list (xs := (m.hd j).map V.int) (fun i ys H'' => ys = (((m.hd j).take i).filter fun k => !decide (k ∈ hs)).map V.int ∧ H' = H'') ⟨rfl, rfl⟩ ?_ ?_ ?_
    · rintro i ys H'' _ ⟨rfl, rfl⟩
      exact SqL.of ha7
    · rintro i x ys H'' hx ⟨rfl, rfl⟩
      rw [List.getElem?_map] at hx
      obtain ⟨n, hn', rfl⟩ := Option.map_eq_some_iff.mp hx
      refine rd_cap (σ' := [none, some _]) rfl ?_
      walk_at "go"
      refine ⟨h, _, rfl, .inl (SqL.of th), rfl, Rm.flats hs, ?_⟩
      rw [Rm.notInI]
      walk_at "go"
      have hle : (((m.hd j).take i).filter fun k => !decide (k ∈ hs)).length ≤ 8 := Nat.le_trans (List.length_filter_le _ _) (Nat.le_trans (List.length_take_le' _ _) hj8)
      refine iteN (fun d2 => ?_) (fun d2 => ?_)
      · walk_at "go"
        refine ⟨by rw [List.length_map]; omega, ?_, rfl⟩
        rw [Rm.take_snoc hn', List.filter_append, List.map_append, List.filter_cons, if_pos (by simpa using d2)]
        rfl
      · refine ⟨?_, rfl⟩
        rw [Rm.take_snoc hn', List.filter_append, List.map_append, List.filter_cons, if_neg (by simpa using d2)]
        exact (List.append_nil _).symm
    · rintro ys H'' ⟨rfl, rfl⟩
      rw [show ((m.hd j).map V.int).length = (m.hd j).length from List.length_map _, List.take_length]
      have hle : ((m.hd j).filter fun k => !decide (k ∈ hs)).length ≤ 8 := Nat.le_trans (List.length_filter_le _ _) hj8
      obtain ⟨nd8, mem8⟩ := Rm.hands_step hj1 hmem hnd (Rm.hd_nd G (hj j hj2))
      generalize (m.hd j).filter (fun k => !decide (k ∈ hs)) = fs at hle nd8 mem8 ⊢
      refine ⟨by rw [List.length_map]; omega, fun p8 hp8 => ?_⟩
      have s8 := Pr.same_new hp8 (.lst (fs.map V.int))
      have t8 : upd H' p8 (.lst (fs.map V.int)) p8 = some (.lst (fs.map V.int)) := upd_same
      generalize upd H' p8 (.lst (fs.map V.int)) = H8 at s8 t8 ⊢
      refine ⟨h, p8, _, _, rfl, rfl, s8 _ _ th, t8, by rw [List.length_map, List.length_map]; omega, fun p9 hp9 => ?_⟩
      have s9 := Pr.same_new hp9 (.lst (hs.map V.int ++ fs.map V.int))
      have t9 : upd H8 p9 (.lst (hs.map V.int ++ fs.map V.int)) p9 = some (.lst ((hs ++ fs).map V.int)) := by rw [upd_same, List.map_append]
      generalize upd H8 p9 (.lst (hs.map V.int ++ fs.map V.int)) = H9 at s9 t9 ⊢
      walk_at "go"
      exact ⟨p9, hs ++ fs, _, rfl, sm7.trans (s8.trans s9), t9, by rw [List.length_append]; omega, nd8, mem8⟩
  rintro σ' H7 ⟨h, hs, o6, rfl, sm7, th, hl8, hnd, hmem⟩
  rw [show (is.map Rm.vN).length = is.length from List.length_map _] at hl8 hmem
  rw [List.take_length] at hmem
  have s7 := s6.trans sm7
  have R7 := R.keeps s7
  have e7 := sm7 _ _ e6
  have g7 := sm7 _ _ g6
  walk_at "go"
  obtain ⟨qs, eqs, aqs⟩ := R7.p
  have part_at : ∀ j ∈ is, ∃ a b, qs[j]? = some a ∧ H7 a = some (.tup [.str (m.nm j), .ref b]) := fun j hjm => by
    obtain ⟨a, ha, b, hb, _⟩ := aqs.get (List.getElem?_eq_getElem (hj j hjm))
    rw [(G.ps j _ (List.getElem?_eq_getElem (hj j hjm))).1] at hb
    exact ⟨a, b, ha, hb⟩
  refine ⟨l, rfl, ⟨_, SqL.of e7⟩, ?_⟩
  refine comp_list (xs := is.map Rm.vN) (fun i ys H' => ys = ((is.take i).map m.nm).map V.str ∧ H7 = H') ⟨rfl, rfl⟩ ?_ ?_ ?_
  · rintro i ys H' _ ⟨rfl, rfl⟩
    exact SqL.of e7
  · rintro i x ys H' hx ⟨rfl, rfl⟩
    obtain ⟨j, hj1, rfl, hj2⟩ := Rm.vN_at hx
    have hi := (List.getElem?_eq_some_iff.mp hj1).1
    obtain ⟨a, b, ha, hb⟩ := part_at j hj2
    refine rd_cap (σ' := [none, some _]) rfl ?_
    walk_at "go"
    refine iteT ?_
    walk_at "go"
    refine ⟨_, _, rfl, Rm.get_parts R7, ?_⟩
    walk_at "go"
    refine ⟨_, _, _, _, rfl, rfl, SqL.of eqs, Rm.at_refI (i := (j : Int)) (by omega) ha, ?_⟩
    walk_at "go"
    refine ⟨_, _, _, _, rfl, rfl, SqT.of hb, rfl, ?_⟩
    refine ⟨by rw [List.length_map, List.length_map, List.length_take]; omega, ?_, rfl⟩
    rw [Rm.take_snoc hj1, List.map_append, List.map_append]
    rfl
  rintro ys H' ⟨rfl, rfl⟩
  rw [show (is.map Rm.vN).length = is.length from List.length_map _, List.take_length]
  refine ⟨by rw [List.length_map, List.length_map]; omega, fun p8 hp8 => ?_⟩
  have s8 := Pr.same_new hp8 (.lst ((is.map m.nm).map V.str))
  have t8 : upd H7 p8 (.lst ((is.map m.nm).map V.str)) p8 = some (.lst ((is.map m.nm).map V.str)) := upd_same
  generalize upd H7 p8 (.lst ((is.map m.nm).map V.str)) = H8 at s8 t8 ⊢
  walk_at "go"
  refine ⟨p8, _, rfl, .inl ⟨SqL.of t8, fun p9 hp9 => ?_⟩⟩
  have s9 := Pr.same_new hp9 (.tup ((is.map m.nm).map V.str))
  have t9 : upd H8 p9 (.tup ((is.map m.nm).map V.str)) p9 = some (.tup ((is.map m.nm).map V.str)) := upd_same
  generalize upd H8 p9 (.tup ((is.map m.nm).map V.str)) = H9 at s9 t9 ⊢
  have s79 := s8.trans s9
  have e9 := s79 _ _ e7
  have g9 := s79 _ _ g7
  have h9 := s79 _ _ th
  have R9 := R7.keeps s79
  have s09 := s7.trans s79
  clear t8 s8 s9 hp8 hp9 part_at aqs eqs qs
  have hk := Rm.hands_ok G hj hmem
  have hs8 : hs.length ≤ 8 := Nat.le_trans (Rm.nodup_len hnd hk) G.l8
  have e1 := G.hl
  have e2 := G.gl
  have sl := Rm.sum_lg G hj
  walk_at "go"
  refine ⟨p, _, _, _, rfl, rfl, SqL.of (s09 _ _ hl), Pr.at_cell (by omega) (by omega), ?_⟩
  walk_at "go"
  refine iteD (fun d1 => ?_) (fun d1 => ?_)
  · walk_at "go"
    refine ⟨(by show 2 ≤ sizeLine; omega), fun p10 hp10 => ?_⟩
    have s10 := Pr.same_new hp10 (.tup [.str "row", .ref p9])
    have t10 : upd H9 p10 (.tup [.str "row", .ref p9]) p10 = some (.tup [.str "row", .ref p9]) := upd_same
    generalize upd H9 p10 (.tup [.str "row", .ref p9]) = H10 at s10 t10 ⊢
    have R10 := R9.keeps s10
    walk_at "go"
    refine ⟨h, hs, rfl, SqL.of (s10 _ _ h9), Nat.lt_of_le_of_lt hs8 (by decide), fun p11 ms hp11 perm ord => ?_⟩
    have s11 := Pr.same_new hp11 (.lst (ms.map V.int))
    have t11 : upd H10 p11 (.lst (ms.map V.int)) p11 = some (.lst (ms.map V.int)) := upd_same
    generalize upd H10 p11 (.lst (ms.map V.int)) = H11 at s11 t11 ⊢
    have R11 := R10.keeps s11
    walk_at "go"
    refine ⟨_, _, rfl, SqL.of (s11 _ _ (s10 _ _ g9)), ?_⟩
    walk_at "go"
    refine ⟨z, m, p10, p11, .row (is.map m.nm), ms, _, rfl, R11, ⟨p9, s11 _ _ t10, s11 _ _ (s10 _ _ t9)⟩, ⟨t11, Rm.off_new R10 hp11⟩, by omega, by omega, by omega, nl, fun H' k R' => ?_⟩
    exact q _ _ ((Rm.Kp.of (s09.trans (s10.trans s11))).trans k) R' (G.add ⟨⟨is, ⟨rfl, hj⟩, i1, i8, fun k => perm.mem_iff.trans (hmem k), rfl⟩, fun k h => hk k (perm.mem_iff.mp h), Rm.sorted_lt perm hnd ord, by omega, sm d1⟩) Rm.add_len
  walk_at "go"
  refine ⟨p, _, _, _, rfl, rfl, SqL.of (s09 _ _ hl), Pr.at_cell (by omega) (by omega), ?_⟩
  walk_at "go"
  refine iteD (fun d2 => ?_) (fun d2 => ?_)
  · walk_at "go"
    refine ⟨(by show 2 ≤ sizeLine; omega), fun p10 hp10 => ?_⟩
    have s10 := Pr.same_new hp10 (.tup [.str "side", .ref p9])
    have t10 : upd H9 p10 (.tup [.str "side", .ref p9]) p10 = some (.tup [.str "side", .ref p9]) := upd_same
    generalize upd H9 p10 (.tup [.str "side", .ref p9]) = H10 at s10 t10 ⊢
    have R10 := R9.keeps s10
    walk_at "go"
    refine ⟨h, hs, rfl, SqL.of (s10 _ _ h9), Nat.lt_of_le_of_lt hs8 (by decide), fun p11 ms hp11 perm ord => ?_⟩
    have s11 := Pr.same_new hp11 (.lst (ms.map V.int))
    have t11 : upd H10 p11 (.lst (ms.map V.int)) p11 = some (.lst (ms.map V.int)) := upd_same
    generalize upd H10 p11 (.lst (ms.map V.int)) = H11 at s11 t11 ⊢
    have R11 := R10.keeps s11
    walk_at "go"
    refine ⟨_, _, rfl, SqL.of (s11 _ _ (s10 _ _ g9)), by rw [List.length_map]; omega, fun gm hgm hall => ?_⟩
    obtain ⟨j1, hj1, rfl⟩ := List.mem_map.mp hgm
    have lj := Rm.lg_in G (hj j1 hj1)
    obtain ⟨ap1, ap2, ap3⟩ := ap d2
    walk_at "go"
    refine ⟨z, m, p10, p11, .side (is.map m.nm), ms, _, rfl, R11, ⟨p9, s11 _ _ t10, s11 _ _ (s10 _ _ t9)⟩, ⟨t11, Rm.off_new R10 hp11⟩, by omega, by omega, by omega, nl, fun H' k R' => ?_⟩
    exact q _ _ ((Rm.Kp.of (s09.trans (s10.trans s11))).trans k) R' (G.add ⟨⟨is, ⟨rfl, hj⟩, ap2, ap3, ap1, fun k => perm.mem_iff.trans (hmem k), ⟨j1, hj1, rfl⟩, fun j hj' => hall _ (List.mem_map.mpr ⟨j, hj', rfl⟩)⟩, fun k h => hk k (perm.mem_iff.mp h), Rm.sorted_lt perm hnd ord, lj.1, lj.2⟩) Rm.add_len
  obtain ⟨j0, r, rfl⟩ : ∃ j0 r, is = j0 :: r := by
    cases is with
    | nil => exact absurd i1 (by decide)
    | cons j0 r => exact ⟨j0, r, rfl⟩
  have hj0 := hj j0 List.mem_cons_self
  have lj := Rm.lg_in G hj0
  walk_at "go"
  refine ⟨_, _, rfl, by omega, by omega, fun wn => ?_⟩
  have c10 := hb.cell (k := 10) (by omega) (by omega)
  walk_at "go"
  refine ⟨p, _, _, _, rfl, rfl, SqL.of (s09 _ _ hl), Pr.at_cell (by omega) (by omega), ?_⟩
  walk_at "go"
  refine ⟨_, _, _, rfl, by omega, by omega, by omega, by omega, fun tm tm1 tm2 => ?_⟩
  walk_at "go"
  refine ⟨fun σ' H' => ∃ t : Int, σ' = [some (.ref z.r), some (.int c), some (.ref p), some (.ref l), some (.ref g), some (.ref h), o6, some (.ref p9), some (.int t)] ∧ 1 ≤ t ∧ t ≤ 10 ^ 18 ∧ t * m.lg j0 ≤ 10 ^ 60 ∧ H9 = H', ?_, ?_⟩
  rotate_left
  · walk_at "go"
    refine ⟨_, _, _, _, rfl, rfl, SqL.of g9, Rm.at0, ?_⟩
    walk_at "go"
    refine iteD (fun d3 => ?_) (fun d3 => ?_)
    · walk_at "go"
      exact ⟨1, rfl, by omega, by omega, by rw [Int.one_mul]; exact lj.2, rfl⟩
    · walk_at "go"
      exact ⟨tm, rfl, tm1, tm2, by omega, rfl⟩
  rintro σ' H' ⟨t, rfl, u1, u2, u3, rfl⟩
  walk_at "go"
  refine ⟨_, _, _, _, rfl, rfl, SqT.of t9, Rm.at0, ?_⟩
  walk_at "go"
  refine ⟨(by show 3 ≤ sizeLine; omega), ?_⟩
  intro p10 hp10; generalize eH : L2.upd _ p10 _ = H10; have s10 := L2.same_of hp10 eH; have t10 := L2.at_of eH; clear eH
  have R10 := R9.keeps s10
  obtain ⟨a, ha1, ha2, ha3⟩ := Rm.hand_at R G hj0 eha
  have s0A := s09.trans s10
  walk_at "go"
  refine ⟨_, _, rfl, Rm.get_hands R10, ?_⟩
  walk_at "go"
  refine ⟨_, _, _, _, rfl, rfl, SqL.of (s10 _ _ e9), Rm.at0, ?_⟩
  refine ⟨_, _, _, _, rfl, rfl, SqL.of (s0A _ _ eha), Rm.at_refI (i := (j0 : Int)) (by omega) ha1, ?_⟩
  walk_at "go"
  refine ⟨_, _, _, _, rfl, rfl, SqL.of (s10 _ _ g9), Rm.at0, ?_⟩
  walk_at "go"
  have pos := Int.mul_pos (show 0 < t by omega) (show 0 < m.lg j0 by omega)
  refine ⟨z, m, p10, a, .again t (m.nm j0), m.hd j0, _, rfl, R10, t10, ⟨s0A _ _ ha2, ha3⟩, by omega, by omega, by omega, nl, fun H' k R' => ?_⟩
  have oj := (G.ps j0 _ (List.getElem?_eq_getElem hj0)).2
  exact q _ _ ((Rm.Kp.of s0A).trans k) R' (G.add ⟨⟨u1, u2, j0, hj0, rfl, rfl, rfl⟩, oj.k, oj.o, by omega, u3⟩) Rm.add_len
theorem ok__law_room (T : Txt K mg t) (G__law_cell_at : FnOk P w K mg base CX0 1 t.a__law_cell_at t.d__law_cell_at ["_law_script", "_law_k"] (Pr.sp_cell_at K)) (G__law_window : FnOk P w K mg base CX0 1 t.a__law_window t.d__law_window ["_law_cell", "_law_turn"] (Rm.sp_window)) (G__law_stream : FnOk P w K mg base CX0 1 t.a__law_stream t.d__law_stream ["_law_cell", "_law_many"] (Ws.sp_stream)) (G__law_names : FnOk P w K mg base CX0 2 t.a__law_names t.d__law_names ["_law_cell", "_law_many"] (Rm.sp_names)) (G__law_number : FnOk P w K mg base CX0 1 t.a__law_number t.d__law_number ["_law_cell", "_law_mixed", "_law_least"] (Rm.sp_number)) (G__law_simple : FnOk P w K mg base CX0 2 t.a__law_simple t.d__law_simple ["_law_room_here", "_law_cell", "_law_some"] (Rm.sp_simple)) (G__law_naming : FnOk P w K mg base CX0 3 t.a__law_naming t.d__law_naming ["_law_room_here", "_law_cell", "_law_some"] (Rm.sp_naming)) : FnOk P w K mg base CX0 4 t.a__law_room t.d__law_room ["_law_script"] (Rm.sp_room8 K) := by
  refine T.F__law_room.ok sc__law_room (fun vs H Q E h => ?_) (fun cdv A outer s H vs Q E hr h => ?_)
  · obtain ⟨a, ns, rfl, hS, h63, q⟩ := h
    rfl
  obtain ⟨a, ns, rfl, hS, h63, q⟩ := h
  refine ⟨_, (pss_cons (ps_set (i := 1) sc__law_room.nd rfl (.inl rfl) (pe_call (G__law_stream.mono (by decide)) hr (by rfl) T.m__law_stream T.F__law_stream.kp T.B__law_stream .nil pass0 (pa_cons (pe_call (G__law_cell_at.mono (by decide)) hr (by rfl) T.m__law_cell_at T.F__law_cell_at.kp T.B__law_cell_at .nil pass0 (pa_cons (pv 0) (pa_cons pe_int pa_nil))) (pa_cons pe_int pa_nil))))
    (pss_cons (ps_set (i := 2) sc__law_room.nd rfl (.inl rfl) (pe_call (G__law_names.mono (by decide)) hr (by rfl) T.m__law_names T.F__law_names.kp T.B__law_names .nil pass0 (pa_cons (pe_call (G__law_cell_at.mono (by decide)) hr (by rfl) T.m__law_cell_at T.F__law_cell_at.kp T.B__law_cell_at .nil pass0 (pa_cons (pv 0) (pa_cons pe_int pa_nil))) (pa_cons pe_int pa_nil))))
    (pss_cons (ps_set (i := 3) sc__law_room.nd rfl (.inl rfl) (pe_lst pa_nil))
    (pss_cons (ps_for PassesOwn.never rfl (pi_range1 (by rfl) T.b_range (pa_cons (pe_op op_add pe_int (pe_op op_mod (pe_ix ix_list (pv 1) pe_int (fun _ _ => rfl)) pe_int)) pa_nil)) (pg_name (i := 4) sc__law_room.nd rfl (.inl rfl))
      (pss_cons (ps_set (i := 5) sc__law_room.nd rfl (.inl rfl) (pe_ix ix_list (pe_lst (pa_cons (pe_op op_add pe_int (pv 4)) (pa_cons (pe_op op_add pe_int (pv 4)) (pa_cons (pe_op op_mod (pe_op op_add (pe_op op_fdivB (pe_ix ix_list (pv 1) pe_int (fun _ _ => rfl)) pe_int) (pe_op op_mulB pe_int (pv 4))) pe_int) pa_nil)))) (pe_op op_mod (pe_ix ix_list (pv 1) pe_int (fun _ _ => rfl)) pe_int) (fun _ _ => rfl)))
      (pss_cons (ps_set (i := 6) sc__law_room.nd rfl (.inl rfl) (pe_call (G__law_window.mono (by decide)) hr (by rfl) T.m__law_window T.F__law_window.kp T.B__law_window .nil pass0 (pa_cons (pe_call (G__law_cell_at.mono (by decide)) hr (by rfl) T.m__law_cell_at T.F__law_cell_at.kp T.B__law_cell_at .nil pass0 (pa_cons (pv 0) (pa_cons pe_int pa_nil))) (pa_cons (pe_op op_add pe_int (pv 4)) pa_nil))))
      (pss_one (ps_expr (pe_bm PySem.F.plainAttrs_list PySem.F.slot_list_append PySem.F.type_list_append mt_append (pv 3) (pa_cons (pe_tup (pa_cons (pe_ix ix_list (pv 2) (pv 5) (fun _ _ => rfl)) (pa_cons (pe_call (G__law_number.mono (by decide)) hr (by rfl) T.m__law_number T.F__law_number.kp T.B__law_number .nil pass0 (pa_cons (pv 6) (pa_cons (pe_ix ix_list (pv 1) (pe_op op_add pe_int (pv 4)) (fun _ _ => rfl)) (pa_cons pe_int pa_nil)))) pa_nil))) pa_nil)))))))
    (pss_cons (ps_set (i := 7) sc__law_room.nd rfl (.inl rfl) (pe_disp (pps_cons pe_str (pv 2) (pps_cons pe_str (pv 3) (pps_cons pe_str (pe_lst pa_nil) (pps_cons pe_str (pe_lst pa_nil) (pps_cons pe_str (pe_lst pa_nil) pps_nil))))) rfl rfl (by simp) (by decide)))
    (pss_cons (ps_for PassesOwn.never rfl (pi_list (pe_slice sl_list (pv 0) (po_some pe_int) (po_some pe_int))) (pg_name (i := 8) sc__law_room.nd rfl (.inl rfl))
      (pss_cons (ps_set (i := 9) sc__law_room.nd rfl (.inl rfl) (pe_call (G__law_stream.mono (by decide)) hr (by rfl) T.m__law_stream T.F__law_stream.kp T.B__law_stream .nil pass0 (pa_cons (pe_op op_add (pv 8) (pe_op op_mulB pe_int (pe_callB call_len (by rfl) T.b_len bt_len (pa_cons (pe_dget (hu_of hr) (pv 7) pe_str (fun _ _ => rfl)) pa_nil)))) (pa_cons pe_int pa_nil))))
      (pss_one (ps_if (PW.pt (pw_and (pt_cmpR op_gt (pe_op op_mod (pe_ix ix_list (pv 9) pe_int (fun _ _ => rfl)) pe_int) pe_int (nomark _)) (pw_and1 (pt_cmpR op_gt (pe_callB call_len (by rfl) T.b_len bt_len (pa_cons (pe_dget (hu_of hr) (pv 7) pe_str (fun _ _ => rfl)) pa_nil)) pe_int (nomark _)))))
        (pss_one (ps_expr (pe_call (G__law_naming.mono (by decide)) hr (by rfl) T.m__law_naming T.F__law_naming.kp T.B__law_naming .nil pass0 (pa_cons (pv 7) (pa_cons (pv 8) (pa_cons (pv 9) pa_nil))))))
        (pss_one (ps_expr (pe_call (G__law_simple.mono (by decide)) hr (by rfl) T.m__law_simple T.F__law_simple.kp T.B__law_simple .nil pass0 (pa_cons (pv 7) (pa_cons (pv 8) (pa_cons (pv 9) pa_nil))))))))))
    (pss_cons (ps_ifJ (pt_cmpR (op_eqD hr.units) (pe_dget (hu_of hr) (pv 7) pe_str (fun _ _ => rfl)) (pe_lst pa_nil) (nomark _))
      (pss_one (ps_expr (pe_call (G__law_simple.mono (by decide)) hr (by rfl) T.m__law_simple T.F__law_simple.kp T.B__law_simple .nil pass0 (pa_cons (pv 7) (pa_cons pe_int (pa_cons (pv 1) pa_nil))))))
      pss_nil)
    (pss_one (ps_ret (pv 7)))))))))), ?_⟩
  refine rd_start (σ' := [some _, none, none, none, none, none, none, none, none, none]) rfl ?_
  have sz : (200 : Nat) < sizeLine := by decide
  walk_at "go"
  refine ⟨a, ns, _, rfl, hS, h63, by omega, ?_⟩
  walk_at "go"
  refine ⟨_, _, rfl, by omega, by omega, fun p1 fs H1 s1 hp1 t1 l1 b1 => ?_⟩
  have B1 : Rm.Big fs := b1
  walk_at "go"
  refine ⟨a, ns, _, rfl, s1.seq hS, h63, by omega, ?_⟩
  walk_at "go"
  refine ⟨_, rfl, fun p2 ws H2 s2 hp2 t2 l2 nd nw => ?_⟩
  have s12 := s1.trans s2
  have t12 := s2 _ _ t1
  walk_at "go"
  refine ⟨Nat.zero_le _, ?_⟩
  intro pl hpl; generalize eH : L2.upd _ pl _ = H3; have s3 := L2.same_of hpl eH; have t3 := L2.at_of eH; clear eH
  have c0 := B1.cell (k := 0) (by omega) (by omega)
  have c9 := B1.cell (k := 9) (by omega) (by omega)
  walk_at "go"
  refine ⟨p1, _, _, _, rfl, rfl, SqL.of (s3 _ _ t12), Pr.at_cell (by omega) (by omega), ?_⟩
  walk_at "go"
  refine ⟨_, rfl, by omega, by omega, ?_⟩
  refine for_range (fun i σ H' => ∃ (ls : List Addr) (lbs : List (Str × Int)) (o4 o5 o6 : Option V), σ = [some (.ref a), some (.ref p1), some (.ref p2), some (.ref pl), o4, o5, o6, none, none, none] ∧ Same H2 H' ∧ H' pl = some (.lst (ls.map V.ref)) ∧ Rm.All2 (Rm.LimbAt H') ls lbs ∧ lbs.length = i ∧ lbs.map (·.1) = (List.range i).map (Rm.lnm ws (Pr.cell fs 9)) ∧ ∀ p ∈ lbs, 0 ≤ p.2 ∧ p.2 ≤ 10 ^ 18)
    ⟨[], [], _, _, _, rfl, s3, t3, .nil, rfl, rfl, (fun z h => nomatch h)⟩ ?_ ?_
  · rintro i σ H' hi ⟨ls, lbs, o4, o5, o6, rfl, sm, el, al, ll, ln, lb⟩
    have all := al.1
    have ck := B1.cell (k := 1 + (0 + (i : Int))) (by omega) (by omega)
    walk_at "go"
    refine ⟨p1, _, _, _, rfl, rfl, SqL.of (sm _ _ t12), Pr.at_cell (by omega) (by omega), ?_⟩
    walk_at "go"
    refine ⟨(by show 3 ≤ sizeLine; omega), ?_⟩
    intro p4 hp4; generalize eH : L2.upd _ p4 _ = H4; have s4 := L2.same_of hp4 eH; have t4 := L2.at_of eH; clear eH
    walk_at "go"
    refine ⟨p1, _, _, _, rfl, rfl, SqL.of (s4 _ _ (sm _ _ t12)), Pr.at_cell (by omega) (by omega), ?_⟩
    walk_at "go"
    refine ⟨p4, _, _, _, rfl, rfl, SqL.of t4, Rm.at_three (by omega) (by omega), ?_⟩
    walk_at "go"
    have sm4 := sm.trans s4
    refine ⟨a, ns, _, rfl, sm4.seq (s12.seq hS), h63, by omega, ?_⟩
    walk_at "go"
    refine ⟨_, _, rfl, by omega, by omega, fun wn => ?_⟩
    walk_at "go"
    refine ⟨.inl ⟨rfl, _, SqL.of (s4 _ _ el)⟩, ?_⟩
    walk_at "go"
    obtain ⟨x0, x1, x2⟩ := Rm.lnm_at (ws := ws) (c := Pr.cell fs 9) (i := i) l2 (by omega) (by omega)
    refine ⟨p2, _, _, _, rfl, rfl, SqL.of (sm4 _ _ t2), Rm.at_nameI x0 x1, ?_⟩
    rw [x2]
    walk_at "go"
    refine ⟨p1, _, _, _, rfl, rfl, SqL.of (sm4 _ _ t12), Pr.at_cell (by omega) (by omega), ?_⟩
    walk_at "go"
    refine ⟨_, _, _, rfl, by omega, by omega, by omega, by omega, fun r r1 r2 => ?_⟩
    walk_at "go"
    refine ⟨(by show 2 ≤ sizeLine; omega), ?_⟩
    intro p5 hp5; generalize eH : L2.upd _ p5 _ = H5; have s5 := L2.same_of hp5 eH; have t5 := L2.at_of eH; clear eH
    have s45 := s4.trans s5
    have el5 := s45 _ _ el
    walk_at "go"
    refine ⟨pl, _, _, rfl, rfl, el5, by rw [List.length_map]; omega, ?_⟩
    have hne : p5 ≠ pl := ne_of t5 el5 (fun z => by cases z)
    refine ⟨ls ++ [p5], lbs ++ [(Rm.lnm ws (Pr.cell fs 9) i, r)], _, _, _, rfl, fun b u h => ?_, ?_, ?_, by rw [List.length_append, ll]; rfl, ?_, fun p hp => ?_⟩
    · rw [upd_ne (ne_of_none h hpl)]
      exact s45 _ _ (sm _ _ h)
    · rw [upd_same, List.map_append]; rfl
    · refine Rm.All2.snoc (al.mono fun b x h => ?_) ?_
      · have h' : H5 b = some (.tup [.str x.1, .int x.2]) := s45 _ _ h
        exact (upd_ne (ne_of h' el5 (fun z => by cases z))).trans h'
      · exact (upd_ne hne).trans t5
    · rw [List.map_append, ln, List.range_succ, List.map_append]; rfl
    · rcases List.mem_append.mp hp with e | e
      · exact lb p e
      · have e' : p = (Rm.lnm ws (Pr.cell fs 9) i, r) := by simpa using e
        rw [e']; exact ⟨r1, r2⟩
  rintro σ' H4 ⟨ls, lbs, o4, o5, o6, rfl, s4, el, al, ll, ln, lb⟩
  walk_at "go"
  refine rd_disp ?_
  intro r hr5; generalize eH : L2.upd _ r _ = H5; have s5 := L2.same_of hr5 eH; have t5 := L2.at_of eH; clear eH
  walk_at "go"
  refine ⟨Nat.zero_le _, ?_⟩
  intro pp hpp; generalize eH : L2.upd _ pp _ = H6; have s6 := L2.same_of hpp eH; have t6 := L2.at_of eH; clear eH
  walk_at "go"
  refine ⟨Nat.zero_le _, ?_⟩
  intro ph hph; generalize eH : L2.upd _ ph _ = H7; have s7 := L2.same_of hph eH; have t7 := L2.at_of eH; clear eH
  walk_at "go"
  refine ⟨Nat.zero_le _, ?_⟩
  intro pg hpg; generalize eH : L2.upd _ pg _ = H8; have s8 := L2.same_of hpg eH; have t8 := L2.at_of eH; clear eH
  walk_at "go"
  refine ⟨s8 _ _ (s7 _ _ (s6 _ _ t5)), [(Sum.inr "names", .ref p2), (Sum.inr "limbs", .ref pl), (Sum.inr "parts", .ref pp), (Sum.inr "hands", .ref ph), (Sum.inr "long", .ref pg)], rfl, (by show 5 ≤ 15; decide), ?_⟩
  generalize eH : upd H8 r _ = H9
  have d9 := at_of eH
  have k9 : ∀ b u, b ≠ r → H8 b = some u → H9 b = some u := fun b u hb h => by rw [← eH, upd_ne hb]; exact h
  clear eH
  have n1 : r ≠ pp := ne_of_none t5 hpp
  have n2 : r ≠ ph := ne_of_none (s6 _ _ t5) hph
  have n3 : r ≠ pg := ne_of_none (s7 _ _ (s6 _ _ t5)) hpg
  have n4 : pp ≠ ph := ne_of_none t6 hph
  have n5 : pp ≠ pg := ne_of_none (s7 _ _ t6) hpg
  have n6 : ph ≠ pg := ne_of_none t7 hpg
  have s58 := s6.trans (s7.trans s8)
  have s48 := s5.trans s58
  have s49 : Same H4 H9 := fun b u h => k9 b u (ne_of_none h hr5) (s48 _ _ h)
  have offo : ∀ b u, H4 b = some u → b ≠ pp ∧ b ≠ ph ∧ b ≠ pg := fun b u h => ⟨ne_of_none (s5 _ _ h) hpp, ne_of_none (s6 _ _ (s5 _ _ h)) hph, ne_of_none (s7 _ _ (s6 _ _ (s5 _ _ h))) hpg⟩
  have e2 := s4 _ _ t2
  obtain ⟨z, hz⟩ : ∃ z : Rm.Ra, z = ⟨r, p2, pl, pp, ph, pg⟩ := ⟨_, rfl⟩
  have R9 : Rm.RoomAt H9 z ⟨ws, lbs, [], [], []⟩ := by
    subst hz
    exact ⟨d9, s49 _ _ e2, ⟨ls, s49 _ _ el, al.mono fun b x h => s49 _ _ h⟩, ⟨[], k9 _ _ n1.symm (s8 _ _ (s7 _ _ t6)), .nil⟩, ⟨[], k9 _ _ n2.symm (s8 _ _ t7), .nil⟩, k9 _ _ n3.symm t8, offo _ _ e2, offo _ _ el, n4, n5, n6⟩
  have G9 : Rm.Good ⟨ws, lbs, [], [], []⟩ := by
    refine ⟨l2, nd, nw, ?_, ?_, ?_, fun p hp => ⟨?_, lb p hp⟩, rfl, rfl, fun i p hp => by simp at hp⟩
    · show 1 ≤ lbs.length; omega
    · show lbs.length ≤ 8; omega
    · show (lbs.map (·.1)).Nodup; rw [ln]; exact Rm.lnm_nd l2 nd (by omega)
    · exact Rm.lnm_in (c := Pr.cell fs 9) (n := (1 + Pr.cell fs 0 % 8).toNat) l2 (by omega) (by rw [← ln]; exact List.mem_map.mpr ⟨p, hp, rfl⟩)
  have zr : z.r = r := by rw [hz]
  have zp : z.pp = pp := by rw [hz]
  have zl : z.pl = pl := by rw [hz]
  have off4 : ∀ b u, H4 b = some u → z.off b := fun b u h => by subst hz; exact offo b u h
  have s04 := s12.trans s4
  have t1' := s49 _ _ (s4 _ _ t12)
  have f1 : z.off p1 := off4 _ _ (s4 _ _ t12)
  have s09 := s04.trans s49
  have off0 : ∀ b u, H b = some u → z.off b := fun b u h => off4 b u (s04 _ _ h)
  walk_at "go"
  rw [← zr]
  refine ⟨a, _, rfl, s09.seq hS, ?_⟩
  intro p10 hp10; generalize eH : L2.upd _ p10 _ = H10; have s10 := L2.same_of hp10 eH; have t10 := L2.at_of eH; clear eH
  have R10 := R9.keeps s10
  have f10 := Rm.off_new R9 hp10
  have s010 := s09.trans s10
  have t110 := s10 _ _ t1'
  clear t1' s49 off4 offo k9 d9 s48 s58 n1 n2 n3 n4 n5 n6 t5 t6 t7 t8 s5 s6 s7 s8
  have hcl := Rm.cut_60 (xs := ns.map V.int)
  refine ⟨p10, rfl, ⟨_, SqL.of t10⟩, ?_⟩
  refine for_list (xs := cutV (ns.map V.int) (some 2) (some 62)) (fun i σ H' => ∃ (m : Rm.Rr) (o8 o9 : Option V), σ = [some (.ref a), some (.ref p1), some (.ref p2), some (.ref pl), o4, o5, o6, some (.ref z.r), o8, o9] ∧ Rm.Kp z H10 H' ∧ Rm.RoomAt H' z m ∧ Rm.Good m ∧ m.parts.length = i)
    ⟨_, none, none, rfl, Rm.Kp.refl _ _, R10, G9, rfl⟩ ?_ ?_ ?_
  · rintro i σ H' _ ⟨m, o8, o9, rfl, k, R, G, hm⟩
    exact SqL.of (k _ _ f10 t10)
  · rintro i x σ H' hx ⟨m, o8, o9, rfl, k, R, G, hm⟩
    obtain ⟨n, hn, rfl⟩ := Pr.mem_cut (List.mem_of_getElem? hx)
    have hi := (List.getElem?_eq_some_iff.mp hx).1
    obtain ⟨qs, eq, aq⟩ := R.p
    walk_at "go"
    refine ⟨_, _, rfl, Rm.get_parts R, ?_⟩
    walk_at "go"
    refine ⟨_, _, rfl, .inl ⟨_, SqL.of eq, rfl⟩, ?_⟩
    rw [List.length_map, aq.1, hm]
    walk_at "go"
    refine ⟨_, _, rfl, by omega, by omega, fun p11 gs H11 s11 hp11 t11 l11 b11 => ?_⟩
    have B11 : Rm.Big gs := b11
    have g0 := B11.cell (k := 0) (by omega) (by omega)
    have R11 := R.keeps s11
    have o11 := Rm.off_new R hp11
    have k11 := k.trans (Rm.Kp.of s11)
    walk_at "go"
    refine ⟨p11, _, _, _, rfl, rfl, SqL.of t11, Pr.at_cell (by omega) (by omega), ?_⟩
    walk_at "go"
    refine iteD (fun d1 => ?_) (fun d1 => ?_)
    · walk_at "go"
      refine ⟨_, _, rfl, Rm.get_parts R11, ?_⟩
      walk_at "go"
      refine ⟨_, _, rfl, .inl ⟨_, SqL.of (s11 _ _ eq), rfl⟩, ?_⟩
      rw [List.length_map, aq.1, hm]
      walk_at "go"
      refine iteD (fun d2 => ?_) (fun d2 => ?_)
      · walk_at "go"
        refine ⟨z, m, n, p11, gs, rfl, R11, G, by omega, by omega, t11, o11, by omega, B11, fun m' H' k' R' G' hl' => ?_⟩
        exact ⟨m', _, _, rfl, k11.trans k', R', G', by omega⟩
      · walk_at "go"
        refine ⟨z, m, n, p11, gs, rfl, R11, G, by omega, t11, o11, by omega, B11, fun m' H' k' R' G' hl' => ?_⟩
        exact ⟨m', _, _, rfl, k11.trans k', R', G', by omega⟩
    · refine iteF ?_
      walk_at "go"
      refine ⟨z, m, n, p11, gs, rfl, R11, G, by omega, t11, o11, by omega, B11, fun m' H' k' R' G' hl' => ?_⟩
      exact ⟨m', _, _, rfl, k11.trans k', R', G', by omega⟩
  rintro σ' H' ⟨m, o8, o9, rfl, k, R, G, hm⟩
  have m61 : m.parts.length ≤ 60 := by omega
  walk_at "go"
  refine ⟨fun σ' H' => ∃ (m : Rm.Rr) (o8 o9 : Option V), σ' = [some (.ref a), some (.ref p1), some (.ref p2), some (.ref pl), o4, o5, o6, some (.ref z.r), o8, o9] ∧ Rm.Kp z H10 H' ∧ Rm.RoomAt H' z m ∧ Rm.Good m ∧ 1 ≤ m.parts.length ∧ m.parts.length ≤ 60, ?_, ?_⟩
  rotate_left
  · obtain ⟨qs, eq, aq⟩ := R.p
    walk_at "go"
    refine ⟨_, _, rfl, Rm.get_parts R, ?_⟩
    walk_at "go"
    refine ⟨Nat.zero_le _, ?_⟩
    intro p12 hp12; generalize eH : L2.upd _ p12 _ = H12; have s12' := L2.same_of hp12 eH; have t12' := L2.at_of eH; clear eH
    have R12 := R.keeps s12'
    have k12 := k.trans (Rm.Kp.of s12')
    refine ⟨_, _, DV.lst (s12' _ _ eq) (Rm.dvs_refs (fun _ _ h => Rm.dv_part (Rm.PartAt.same s12' h)) aq), Rm.dv_e t12', (Rm.shp_parts (G.bk (by omega))).ok (by decide), Rm.shp0, ?_⟩
    rw [Rm.eqv_parts]
    walk_at "go"
    refine iteD (fun d1 => ?_) (fun d1 => ?_)
    · have d0 : m.parts.length = 0 := by rw [d1]; rfl
      walk_at "go"
      refine ⟨z, m, 0, p1, fs, rfl, R12, G, by omega, k12 _ _ f1 t110, f1, by omega, B1, fun m' H' k' R' G' hl' => ?_⟩
      exact ⟨m', _, _, rfl, k12.trans k', R', G', by omega, by omega⟩
    · walk_at "go"
      refine ⟨m, _, _, rfl, k12, R12, G, ?_, by omega⟩
      cases hq : m.parts with
      | nil => exact absurd hq d1
      | cons x y => exact Nat.succ_le_succ (Nat.zero_le _)
  rintro σ' H' ⟨m, o8, o9, rfl, k, R, G, m1, m61⟩
  walk_at "go"
  exact q z m H' (fun b u h => k b u (off0 b u h) (s010 _ _ h)) R G m1 m61
theorem ok__law_rows (T : Txt K mg t) : FnOk P w K mg base CX0 1 t.a__law_rows t.d__law_rows ["_law_book"] (Rm.sp_rows) := by
  refine T.F__law_rows.ok sc__law_rows (fun vs H Q E h => ?_) (fun cdv A outer s H vs Q E hr h => ?_)
  · obtain ⟨b, pl, pp, las, pas, ls, ps, rfl, B, O, q⟩ := h
    rfl
  obtain ⟨b, pl, pp, las, pas, ls, ps, rfl, B, O, q⟩ := h
  refine ⟨_, (pss_cons (ps_set (i := 1) sc__law_rows.nd rfl (.inl rfl) (pe_lst (pa_cons pe_str pa_nil)))
    (pss_cons (ps_for PassesOwn.never rfl (pi_list (pe_ix ix_tup (pv 0) pe_int (fun _ _ => rfl))) (pg_tup rfl (pgs_cons (pg_name (i := 2) sc__law_rows.nd rfl (.inl rfl)) (pgs_cons (pg_name (i := 3) sc__law_rows.nd rfl (.inl rfl)) pgs_nil)))
      (pss_one (ps_asg (pe_op op_add_str (pe_op op_add_str (pe_op op_add_str (pe_op op_add_str (pe_ix ix_list (pv 1) pe_int (fun _ _ => rfl)) pe_str) (pv 2)) pe_str) (pe_callTy call_strA (by rfl) T.b_str bt_str (pa_cons (pv 3) pa_nil))) (pg_sub (pv 1) pe_int set_list))))
    (pss_cons (ps_for PassesOwn.never rfl (pi_list (pe_ix ix_tup (pv 0) pe_int (fun _ _ => rfl))) (pg_tup rfl (pgs_cons (pg_name (i := 2) sc__law_rows.nd rfl (.inl rfl)) (pgs_cons (pg_name (i := 4) sc__law_rows.nd rfl (.inl rfl)) pgs_nil)))
      (pss_cons (ps_set (i := 5) sc__law_rows.nd rfl (.inl rfl) (pe_lst (pa_cons pe_str (pa_cons (pv 2) (pa_cons (pe_ix ix_tup (pv 4) pe_int (fun _ _ => rfl)) pa_nil)))))
      (pss_cons (ps_for PassesOwn.never rfl (pi_tup (pe_slice sl_tup (pv 4) (po_some pe_int) po_none)) (pg_name (i := 6) sc__law_rows.nd rfl (.inl rfl))
        (pss_one (ps_if (pt_val (pe_callB call_isi (by rfl) T.b_isinstance bt_isinstance (pa_cons (pv 6) (pa_cons (pe_bltn (v := .ty "tuple") (by rfl) T.b_tuple bt_tuple rfl) pa_nil))))
          (pss_one (ps_set (i := 5) sc__law_rows.nd rfl (.inl rfl) (pe_op op_cat (pv 5) (pe_callTy call_list_of (by rfl) T.b_list bt_list (pa_cons (pv 6) pa_nil)))))
          (pss_one (ps_expr (pe_bm PySem.F.plainAttrs_list PySem.F.slot_list_append PySem.F.type_list_append mt_append (pv 5) (pa_cons (pe_callTy call_strA (by rfl) T.b_str bt_str (pa_cons (pv 6) pa_nil)) pa_nil)))))))
      (pss_one (ps_expr (pe_bm PySem.F.plainAttrs_list PySem.F.slot_list_append PySem.F.type_list_append mt_append (pv 1) (pa_cons (pe_bm PySem.F.plainAttrs_str PySem.F.slot_str_join PySem.F.type_str_join mt_join pe_str (pa_cons (pv 5) pa_nil)) pa_nil)))))))
    (pss_one (ps_ret (pv 1)))))), ?_⟩
  refine rd_start (σ' := [some _, none, none, none, none, none, none]) rfl ?_
  have sz : (1000 : Nat) < sizeLine := by decide
  have l8 := O.l8
  have p61 := O.p61
  have la := B.la.1
  have pa := B.pa.1
  walk_at "go"
  refine ⟨(by show 1 ≤ sizeLine; omega), ?_⟩
  intro p1 hp1; generalize eH : L2.upd _ p1 _ = H1; have s1 := L2.same_of hp1 eH; have t1 := L2.at_of eH; clear eH
  walk_at "go"
  refine ⟨b, _, _, _, rfl, rfl, SqT.of (s1 _ _ B.t), rfl, ?_⟩
  refine ⟨pl, rfl, ⟨_, SqL.of (s1 _ _ B.l)⟩, ?_⟩
  refine for_list (xs := las.map V.ref) (fun i σ H' => ∃ o2 o3 : Option V, σ = [some (.ref b), some (.ref p1), o2, o3, none, none, none] ∧ Same H H' ∧ H' p1 = some (.lst [.str (Rm.rowL (ls.take i))]))
    ⟨_, _, rfl, s1, t1⟩ ?_ ?_ ?_
  · rintro i σ H' _ ⟨o2, o3, rfl, sm, e1⟩
    exact SqL.of (sm _ _ B.l)
  · rintro i x σ H' hx ⟨o2, o3, rfl, sm, e1⟩
    obtain ⟨a, p, rfl, hp, hat⟩ := B.la.at_ref hx
    obtain ⟨w1, w2, w3⟩ := O.ln p (List.mem_of_getElem? hp)
    have n1 := Rm.len_W w1
    have n2 := Rm.tI_len w2 w3
    have n3 := Rm.bl_len
    have n4 := Rm.rowL_len (ls := ls.take i) (Nat.le_trans (List.length_take_le' _ _) l8) fun p hp => O.ln p (List.mem_of_mem_take hp)
    refine rd_gT2 (SqT.of (sm _ _ hat)) ?_
    walk_at "go"
    refine ⟨p1, _, _, _, rfl, rfl, SqL.of e1, rfl, ?_⟩
    walk_at "go"
    refine ⟨_, _, rfl, rfl, Rm.cat2 n4 n3, ?_⟩
    walk_at "go"
    refine ⟨_, _, rfl, rfl, Rm.cat3 n4 n3 n1, ?_⟩
    walk_at "go"
    refine ⟨_, _, rfl, rfl, Rm.cat4 n4 n3 n1, ?_⟩
    walk_at "go"
    refine .inl ⟨_, rfl, Rm.log_ok w2 w3, ?_⟩
    refine ⟨_, _, rfl, rfl, Rm.cat5 n4 n3 n1 n2, ?_⟩
    walk_at "go"
    refine ⟨p1, _, _, 0, rfl, rfl, e1, rfl, ?_⟩
    refine ⟨_, _, rfl, fun c u h => (upd_ne (ne_of_none h hp1)).trans (sm _ _ h), ?_⟩
    rw [upd_same, Rm.take_snoc hp, Rm.rowL_snoc]
    rfl
  rintro σ' H2 ⟨o2, o3, rfl, s2, e2⟩
  rw [show (las.map V.ref).length = ls.length by rw [List.length_map, la], List.take_length] at e2
  walk_at "go"
  refine ⟨b, _, _, _, rfl, rfl, SqT.of (s2 _ _ B.t), rfl, ?_⟩
  refine ⟨pp, rfl, ⟨_, SqL.of (s2 _ _ B.p)⟩, ?_⟩
  refine for_list (xs := pas.map V.ref) (fun i σ H' => ∃ o2 o3 o4 o5 o6 : Option V, σ = [some (.ref b), some (.ref p1), o2, o3, o4, o5, o6] ∧ Same H H' ∧ H' p1 = some (.lst ((Rm.rowL ls :: (ps.take i).map Rm.rowP).map V.str)))
    ⟨_, _, _, _, _, rfl, s2, e2⟩ ?_ ?_ ?_
  · rintro i σ H' _ ⟨o2, o3, o4, o5, o6, rfl, sm, e1⟩
    exact SqL.of (sm _ _ B.p)
  · rintro i x σ H' hx ⟨o2, o3, o4, o5, o6, rfl, sm, e1⟩
    obtain ⟨a, p, rfl, hp, fb, hat, hf⟩ := B.pa.at_ref hx
    have hpm := List.mem_of_getElem? hp
    obtain ⟨w1, w2⟩ := O.pn p hpm
    obtain ⟨k, xs, out, F⟩ := Rm.fm_items (Rm.FormAt.same sm hf) w2
    have hi := (List.getElem?_eq_some_iff.mp hp).1
    refine rd_gT2 (SqT.of (sm _ _ hat)) ?_
    walk_at "go"
    refine ⟨fb, _, _, _, rfl, rfl, SqT.of F.t, Rm.at0, ?_⟩
    walk_at "go"
    refine ⟨(by show 3 ≤ sizeLine; omega), ?_⟩
    intro p5 hp5; generalize eH : L2.upd _ p5 _ = H5; have s5 := L2.same_of hp5 eH; have t5 := L2.at_of eH; clear eH
    walk_at "go"
    refine ⟨fb, _, rfl, SqT.of (s5 _ _ F.t), Rm.cut_tail_ok, ?_⟩
    rw [Rm.cut_tail]
    intro p6 hp6; generalize eH : L2.upd _ p6 _ = H6; have s6 := L2.same_of hp6 eH; have t6 := L2.at_of eH; clear eH
    have s56 := s5.trans s6
    refine ⟨p6, rfl, ⟨_, SqT.of t6⟩, ?_⟩
    refine for_tup (xs := xs) (fun j σ H'' => ∃ (w : Addr) (o6 : Option V), σ = [some (.ref b), some (.ref p1), some (.str p.1), o3, some (.ref fb), some (.ref w), o6] ∧ Same H' H'' ∧ H' w = none ∧ H'' p6 = some (.tup xs) ∧ H'' w = some (.lst ((("part" : Str) :: p.1 :: k :: out j).map V.str)))
      ⟨p5, _, rfl, s56, hp5, t6, by rw [F.o0]; exact s6 _ _ t5⟩ ?_ ?_ ?_
    · rintro j σ H'' _ ⟨w, o6, rfl, sj, nw, t6', ew⟩
      exact SqT.of t6'
    · rintro j x σ H'' hx ⟨w, o6, rfl, sj, nw, t6', ew⟩
      have hj := (List.getElem?_eq_some_iff.mp hx).1
      have ol := F.l j (by omega)
      have ol2 := F.l (j + 1) (by omega)
      rcases F.s j x hx with ⟨bb, qs, rfl, hb, eo⟩ | ⟨u, tv, eo⟩
      · have ql : qs.length ≤ 9 := by rw [eo, List.length_append] at ol2; omega
        have hbb := sj _ _ hb
        walk_at "go"
        refine ⟨_, _, _, _, rfl, .tup hbb, i_tuple_tuple, ?_⟩
        walk_at "go"
        refine iteT ?_
        walk_at "go"
        refine ⟨bb, _, rfl, .inr (SqT.of hbb), ?_⟩
        intro p7 hp7; generalize eH : L2.upd _ p7 _ = H7; have s7 := L2.same_of hp7 eH; have t7 := L2.at_of eH; clear eH
        walk_at "go"
        refine ⟨w, p7, _, _, rfl, rfl, s7 _ _ ew, t7, by rw [List.length_map, List.length_map]; rw [List.length_cons, List.length_cons, List.length_cons]; omega, ?_⟩
        intro p8 hp8; generalize eH : L2.upd _ p8 _ = H8; have s8 := L2.same_of hp8 eH; have t8 := L2.at_of eH; clear eH
        walk_at "go"
        have s78 := s7.trans s8
        refine ⟨p8, _, rfl, sj.trans s78, Rm.none_of (sj.trans s7) hp8, s78 _ _ t6', ?_⟩
        rw [t8, eo, ← List.map_append]; rfl
      · have ew' : ∀ H3, Same H'' H3 → upd H3 w (.lst ((("part" : Str) :: p.1 :: k :: out j).map V.str ++ [.str u])) w = some (.lst ((("part" : Str) :: p.1 :: k :: out (j + 1)).map V.str)) := fun H3 _ => by
          rw [upd_same, eo]
          show _ = some (HO.lst ((("part" : Str) :: p.1 :: k :: (out j ++ [u])).map V.str))
          rw [show (("part" : Str) :: p.1 :: k :: (out j ++ [u])) = (("part" : Str) :: p.1 :: k :: out j) ++ [u] from rfl, List.map_append]
          rfl
        have ne6 : p6 ≠ w := ne_of t6' ew (fun z => by cases z)
        rcases tv with rfl | ⟨n, rfl, n0, n1, rfl⟩
        · walk_at "go"
          refine ⟨_, _, _, _, rfl, .str _, i_str_tuple, ?_⟩
          walk_at "go"
          refine iteF ?_
          walk_at "go"
          refine ⟨.inl ⟨rfl, _, SqL.of ew⟩, ?_⟩
          walk_at "go"
          refine .inr ⟨_, rfl, ?_⟩
          walk_at "go"
          refine ⟨w, _, _, rfl, rfl, ew, by rw [List.length_map, List.length_cons, List.length_cons, List.length_cons]; omega, ?_⟩
          exact ⟨w, _, rfl, fun c v h => (upd_ne (ne_of_none h nw)).trans (sj _ _ h), nw, (upd_ne ne6).trans t6', ew' _ (Same.refl _)⟩
        · walk_at "go"
          refine ⟨_, _, _, _, rfl, .int _, i_int_tuple, ?_⟩
          walk_at "go"
          refine iteF ?_
          walk_at "go"
          refine ⟨.inl ⟨rfl, _, SqL.of ew⟩, ?_⟩
          walk_at "go"
          refine .inl ⟨_, rfl, Rm.log_ok n0 n1, ?_⟩
          walk_at "go"
          refine ⟨w, _, _, rfl, rfl, ew, by rw [List.length_map, List.length_cons, List.length_cons, List.length_cons]; omega, ?_⟩
          exact ⟨w, _, rfl, fun c v h => (upd_ne (ne_of_none h nw)).trans (sj _ _ h), nw, (upd_ne ne6).trans t6', ew' _ (Same.refl _)⟩
    rintro σ' H7 ⟨w, o6, rfl, sj, nw, t6', ew⟩
    rw [F.e] at ew
    walk_at "go"
    refine ⟨.inl ⟨rfl, _, SqL.of (sj _ _ e1)⟩, ?_⟩
    walk_at "go"
    refine ⟨rfl, ?_⟩
    walk_at "go"
    refine ⟨_, w, _, rfl, rfl, SqL.of ew, Nat.le_trans (Rm.rowP_ok O hpm) (show 220 ≤ 16777216 by decide), ?_⟩
    walk_at "go"
    refine ⟨p1, _, _, rfl, rfl, sj _ _ e1, ?_, ?_⟩
    · rw [List.length_map, List.length_cons, List.length_map, List.length_take]
      omega
    refine ⟨_, _, _, _, _, rfl, fun c u h => (upd_ne (ne_of_none h hp1)).trans (sj _ _ (sm _ _ h)), ?_⟩
    rw [upd_same, Rm.take_snoc hp, List.map_cons, List.map_cons, List.map_append, List.map_append]
    rfl
  rintro σ' H3 ⟨o2, o3, o4, o5, o6, rfl, s3, e3⟩
  rw [show (pas.map V.ref).length = ps.length by rw [List.length_map, pa], List.take_length] at e3
  walk_at "go"
  exact q p1 H3 s3 hp1 e3
theorem base__law_alike (T : Txt K mg t) : FnOk P w K mg base CX0 1 t.a__law_alike t.d__law_alike ["_law_found", "_law_due"] (Rm.sp_alike 0) := by
  refine T.F__law_alike.ok sc__law_alike (fun vs H Q E h => ?_) (fun cdv A outer s H vs Q E hr h => ?_)
  · exact absurd h (Rm.no_alike)
  · exact absurd h (Rm.no_alike)
theorem ok__law_alike {rd rl : Nat} (T : Txt K mg t) (G__law_alike : FnOk P w K mg base CX0 rl t.a__law_alike t.d__law_alike ["_law_found", "_law_due"] (Rm.sp_alike rd)) : FnOk P w K mg base CX0 (rl + 1) t.a__law_alike t.d__law_alike ["_law_found", "_law_due"] (Rm.sp_alike (rd + 1)) := by
  refine T.F__law_alike.ok sc__law_alike (fun vs H Q E h => ?_) (fun cdv A outer s H vs Q E hr h => ?_)
  · obtain ⟨x, y, D, rfl, hx, hy, hD, q⟩ := h
    rfl
  obtain ⟨x, y, D, rfl, hx, hy, hD, q⟩ := h
  refine ⟨_, (pss_cons (ps_if (pt_val (pe_callB call_isi (by rfl) T.b_isinstance bt_isinstance (pa_cons (pv 1) (pa_cons (pe_bltn (v := .ty "int") (by rfl) T.b_int bt_int rfl) pa_nil))))
      (pss_one (ps_ret (pe_and (pe_callB call_isi (by rfl) T.b_isinstance bt_isinstance (pa_cons (pv 0) (pa_cons (pe_bltn (v := .ty "int") (by rfl) T.b_int bt_int rfl) pa_nil))) (pe_and (pe_not (pe_callB call_isi (by rfl) T.b_isinstance bt_isinstance (pa_cons (pv 0) (pa_cons (pe_bltn (v := .ty "bool") (by rfl) T.b_bool bt_bool rfl) pa_nil)))) (pe_one (pe_cmpR op_eq (pv 0) (pv 1) (nomark _)))))))
      pss_nil)
    (pss_cons (ps_if (pt_val (pe_callB call_isi (by rfl) T.b_isinstance bt_isinstance (pa_cons (pv 1) (pa_cons (pe_bltn (v := .ty "str") (by rfl) T.b_str bt_str rfl) pa_nil))))
      (pss_one (ps_ret (pe_and (pe_callB call_isi (by rfl) T.b_isinstance bt_isinstance (pa_cons (pv 0) (pa_cons (pe_bltn (v := .ty "str") (by rfl) T.b_str bt_str rfl) pa_nil))) (pe_one (pe_cmpR op_eq (pv 0) (pv 1) (nomark _))))))
      pss_nil)
    (pss_cons (ps_ifJ (pt_val (pe_callB call_isi (by rfl) T.b_isinstance bt_isinstance (pa_cons (pv 1) (pa_cons (pe_bltn (v := .ty "tuple") (by rfl) T.b_tuple bt_tuple rfl) pa_nil))))
      (pss_one (ps_if (pt_not (pt_val (pe_callB call_isi (by rfl) T.b_isinstance bt_isinstance (pa_cons (pv 0) (pa_cons (pe_bltn (v := .ty "tuple") (by rfl) T.b_tuple bt_tuple rfl) pa_nil)))))
        (pss_one (ps_ret pe_bl))
        pss_nil))
      (pss_one (ps_if (pt_not (pt_val (pe_callB call_isi (by rfl) T.b_isinstance bt_isinstance (pa_cons (pv 0) (pa_cons (pe_bltn (v := .ty "list") (by rfl) T.b_list bt_list rfl) pa_nil)))))
        (pss_one (ps_ret pe_bl))
        pss_nil)))
    (pss_cons (ps_if (pt_cmpR op_ne (pe_callB call_len (by rfl) T.b_len bt_len (pa_cons (pv 0) pa_nil)) (pe_callB call_len (by rfl) T.b_len bt_len (pa_cons (pv 1) pa_nil)) (nomark _))
      (pss_one (ps_ret pe_bl))
      pss_nil)
    (pss_cons (ps_for PassesOwn.never rfl (pi_range1 (by rfl) T.b_range (pa_cons (pe_callB call_len (by rfl) T.b_len bt_len (pa_cons (pv 1) pa_nil)) pa_nil)) (pg_name (i := 2) sc__law_alike.nd rfl (.inl rfl))
      (pss_one (ps_if (pt_not (pt_val (pe_call (G__law_alike.mono (Nat.le_refl _)) hr (by rfl) T.m__law_alike T.F__law_alike.kp T.B__law_alike .nil pass0 (pa_cons (pe_ix ix_both (pv 0) (pv 2) (fun _ _ => rfl)) (pa_cons (pe_ix ix_both (pv 1) (pv 2) (fun _ _ => rfl)) pa_nil)))))
        (pss_one (ps_ret pe_bl))
        pss_nil)))
    (pss_one (ps_ret pe_bl))))))), ?_⟩
  refine rd_start (σ' := [some _, some _, none]) rfl ?_
  have sz : (200 : Nat) < sizeLine := by decide
  cases hy with
  | non => exact absurd hD id
  | bl b => exact absurd hD id
  | int i =>
    cases hx
    walk_at "go"
    refine ⟨_, _, _, _, rfl, .int _, i_int_int, ?_⟩
    walk_at "go"
    refine iteT ?_
    walk_at "go"
    refine ⟨_, _, _, _, rfl, .int _, i_int_int, ?_⟩
    walk_at "go"
    refine iteT ?_
    walk_at "go"
    refine ⟨_, _, _, _, rfl, .int _, i_int_bool, ?_⟩
    walk_at "go"
    refine iteT ?_
    walk_at "go"
    rw [decide_eq_true rfl]
    exact q
  | str i =>
    cases hx
    walk_at "go"
    refine ⟨_, _, _, _, rfl, .str _, i_str_int, ?_⟩
    walk_at "go"
    refine iteF ?_
    walk_at "go"
    refine ⟨_, _, _, _, rfl, .str _, i_str_str, ?_⟩
    walk_at "go"
    refine iteT ?_
    walk_at "go"
    refine ⟨_, _, _, _, rfl, .str _, i_str_str, ?_⟩
    walk_at "go"
    refine iteT ?_
    walk_at "go"
    rw [decide_eq_true rfl]
    exact q
  | @lst a2 xs2 ds2 e2 r2 =>
    cases hx with | @lst a1 xs1 ds1 e1 r1 =>
    obtain ⟨h1, h2⟩ := hD
    have l1 := Rm.dvs_len r1
    have l2 := Rm.dvs_len r2
    walk_at "go"
    refine ⟨_, _, _, _, rfl, .lst e2, i_list_int, ?_⟩
    walk_at "go"
    refine iteF ?_
    walk_at "go"
    refine ⟨_, _, _, _, rfl, .lst e2, i_list_str, ?_⟩
    walk_at "go"
    refine iteF ?_
    walk_at "go"
    refine ⟨fun σ' H' => σ' = [some (.ref a1), some (.ref a2), none] ∧ H = H', ?_, ?_⟩
    rotate_left
    · walk_at "go"
      refine ⟨_, _, _, _, rfl, .lst e2, i_list_tuple, ?_⟩
      walk_at "go"
      refine iteF ?_
      walk_at "go"
      refine ⟨_, _, _, _, rfl, .lst e1, i_list_list, ?_⟩
      walk_at "go"
      refine iteF ?_
      walk_at "go"
      exact ⟨rfl, rfl⟩
    rintro σ' H' ⟨rfl, rfl⟩
    walk_at "go"
    refine ⟨_, _, rfl, .inl ⟨_, SqL.of e1, rfl⟩, ?_⟩
    walk_at "go"
    refine ⟨_, _, rfl, .inl ⟨_, SqL.of e2, rfl⟩, ?_⟩
    walk_at "go"
    refine iteN (fun z => absurd (by rw [l1, l2]) z) (fun _ => ?_)
    walk_at "go"
    refine ⟨_, _, rfl, .inl ⟨_, SqL.of e2, rfl⟩, ?_⟩
    walk_at "go"
    refine ⟨_, rfl, by omega, by omega, ?_⟩
    refine for_range (fun i σ H' => ∃ (o2 : Option V), σ = [some (.ref a1), some (.ref a2), o2] ∧ H = H') ⟨_, rfl, rfl⟩ ?_ ?_
    · rintro i σ H' hi ⟨o2, rfl, rfl⟩
      obtain ⟨x1, d1, ex1, ed1, dx1⟩ := Rm.dvs_get r1 (i := i) (by omega)
      obtain ⟨x2, d2, ex2, ed2, dx2⟩ := Rm.dvs_get r2 (i := i) (by omega)
      rw [ed1] at ed2
      cases ed2
      walk_at "go"
      refine .inl ⟨_, _, _, _, rfl, rfl, SqL.of e1, Rm.atI_nat ex1, ?_⟩
      walk_at "go"
      refine .inl ⟨_, _, _, _, rfl, rfl, SqL.of e2, Rm.atI_nat ex2, ?_⟩
      walk_at "go"
      refine ⟨x1, x2, d1, rfl, dx1, dx2, h2 d1 (List.mem_of_getElem? ed1), ?_⟩
      walk_at "go"
      refine iteF ?_
      walk_at "go"
      exact ⟨_, rfl, rfl⟩
    rintro σ' H' ⟨o2, rfl, rfl⟩
    walk_at "go"
    exact q
  | @tup a2 xs2 ds2 e2 r2 =>
    cases hx with | @tup a1 xs1 ds1 e1 r1 =>
    obtain ⟨h1, h2⟩ := hD
    have l1 := Rm.dvs_len r1
    have l2 := Rm.dvs_len r2
    walk_at "go"
    refine ⟨_, _, _, _, rfl, .tup e2, i_tuple_int, ?_⟩
    walk_at "go"
    refine iteF ?_
    walk_at "go"
    refine ⟨_, _, _, _, rfl, .tup e2, i_tuple_str, ?_⟩
    walk_at "go"
    refine iteF ?_
    walk_at "go"
    refine ⟨fun σ' H' => σ' = [some (.ref a1), some (.ref a2), none] ∧ H = H', ?_, ?_⟩
    rotate_left
    · walk_at "go"
      refine ⟨_, _, _, _, rfl, .tup e2, i_tuple_tuple, ?_⟩
      walk_at "go"
      refine iteT ?_
      walk_at "go"
      refine ⟨_, _, _, _, rfl, .tup e1, i_tuple_tuple, ?_⟩
      walk_at "go"
      refine iteF ?_
      walk_at "go"
      exact ⟨rfl, rfl⟩
    rintro σ' H' ⟨rfl, rfl⟩
    walk_at "go"
    refine ⟨_, _, rfl, .inr ⟨_, SqT.of e1, rfl⟩, ?_⟩
    walk_at "go"
    refine ⟨_, _, rfl, .inr ⟨_, SqT.of e2, rfl⟩, ?_⟩
    walk_at "go"
    refine iteN (fun z => absurd (by rw [l1, l2]) z) (fun _ => ?_)
    walk_at "go"
    refine ⟨_, _, rfl, .inr ⟨_, SqT.of e2, rfl⟩, ?_⟩
    walk_at "go"
    refine ⟨_, rfl, by omega, by omega, ?_⟩
    refine for_range (fun i σ H' => ∃ (o2 : Option V), σ = [some (.ref a1), some (.ref a2), o2] ∧ H = H') ⟨_, rfl, rfl⟩ ?_ ?_
    · rintro i σ H' hi ⟨o2, rfl, rfl⟩
      obtain ⟨x1, d1, ex1, ed1, dx1⟩ := Rm.dvs_get r1 (i := i) (by omega)
      obtain ⟨x2, d2, ex2, ed2, dx2⟩ := Rm.dvs_get r2 (i := i) (by omega)
      rw [ed1] at ed2
      cases ed2
      walk_at "go"
      refine .inr ⟨_, _, _, _, rfl, rfl, SqT.of e1, Rm.atI_nat ex1, ?_⟩
      walk_at "go"
      refine .inr ⟨_, _, _, _, rfl, rfl, SqT.of e2, Rm.atI_nat ex2, ?_⟩
      walk_at "go"
      refine ⟨x1, x2, d1, rfl, dx1, dx2, h2 d1 (List.mem_of_getElem? ed1), ?_⟩
      walk_at "go"
      refine iteF ?_
      walk_at "go"
      exact ⟨_, rfl, rfl⟩
    rintro σ' H' ⟨o2, rfl, rfl⟩
    walk_at "go"
    exact q
theorem ok_law (T : Txt K mg t) (G_read : FnOk P w K mg base CX0 7 t.a_read t.d_read ["text"] (Rm.sp_read)) (G__law_room : FnOk P w K mg base CX0 4 t.a__law_room t.d__law_room ["_law_script"] (Rm.sp_room8 K)) (G__law_rows : FnOk P w K mg base CX0 1 t.a__law_rows t.d__law_rows ["_law_book"] (Rm.sp_rows)) (G__law_alike : FnOk P w K mg base CX0 7 t.a__law_alike t.d__law_alike ["_law_found", "_law_due"] (Rm.sp_alike 6)) : FnOk P w K mg base CX0 8 t.a_law t.d_law ["_law_script"] (Pr.sp_law K) := by
  refine T.F_law.ok sc_law (fun vs H Q E h => ?_) (fun cdv A outer s H vs Q E hr h => ?_)
  · obtain ⟨a, ns, rfl, hS, h63, hB, q⟩ := h
    rfl
  obtain ⟨a, ns, rfl, hS, h63, hB, q⟩ := h
  refine ⟨_, (pss_cons (ps_set (i := 1) sc_law.nd rfl (.inl rfl) (pe_call (G__law_room.mono (by decide)) hr (by rfl) T.m__law_room T.F__law_room.kp T.B__law_room .nil pass0 (pa_cons (pv 0) pa_nil)))
    (pss_cons (ps_set (i := 2) sc_law.nd rfl (.inl rfl) (pe_tup (pa_cons (pe_dget (hu_of hr) (pv 1) pe_str (fun _ _ => rfl)) (pa_cons (pe_dget (hu_of hr) (pv 1) pe_str (fun _ _ => rfl)) pa_nil))))
    (pss_cons (ps_set (i := 3) sc_law.nd rfl (.inl rfl) (pe_bm PySem.F.plainAttrs_str PySem.F.slot_str_join PySem.F.type_str_join mt_join pe_str (pa_cons (pe_call (G__law_rows.mono (by decide)) hr (by rfl) T.m__law_rows T.F__law_rows.kp T.B__law_rows .nil pass0 (pa_cons (pv 2) pa_nil)) pa_nil)))
    (pss_cons (ps_set (i := 4) sc_law.nd rfl (.inl rfl) (pe_call (G_read.mono (by decide)) hr (by rfl) T.m_read T.F_read.kp T.B_read .nil pass0 (pa_cons (pv 3) pa_nil)))
    (pss_cons (ps_if (pt_not (pt_val (pe_call (G__law_alike.mono (by decide)) hr (by rfl) T.m__law_alike T.F__law_alike.kp T.B__law_alike .nil pass0 (pa_cons (pv 4) (pa_cons (pv 2) pa_nil)))))
      (pss_one (ps_ret pe_bl))
      pss_nil)
    (pss_cons (ps_expr (pe_bm PySem.F.plainAttrs_list PySem.F.slot_list_append PySem.F.type_list_append mt_append (pe_ix ix_tup (pv 4) pe_int (fun _ _ => rfl)) (pa_cons (pe_tup (pa_cons pe_str (pa_cons pe_int pa_nil))) pa_nil)))
    (pss_cons (ps_expr (pe_bm0 PySem.F.plainAttrs_list PySem.F.slot_list_clear PySem.F.type_list_clear mt_clear (pe_ix ix_tup (pv 4) pe_int (fun _ _ => rfl))))
    (pss_one (ps_ret (pe_call (G__law_alike.mono (by decide)) hr (by rfl) T.m__law_alike T.F__law_alike.kp T.B__law_alike .nil pass0 (pa_cons (pe_call (G_read.mono (by decide)) hr (by rfl) T.m_read T.F_read.kp T.B_read .nil pass0 (pa_cons (pv 3) pa_nil)) (pa_cons (pv 2) pa_nil)))))))))))), ?_⟩
  refine rd_start (σ' := [some _, none, none, none, none]) rfl ?_
  have sz : (200 : Nat) < sizeLine := by decide
  walk_at "go"
  refine ⟨a, ns, rfl, hS, h63, fun z m H1 s1 R G m1 m60 => ?_⟩
  obtain ⟨ls, el, al⟩ := R.l
  obtain ⟨qs, eq, aq⟩ := R.p
  have O := G.bk (by omega)
  have D := G.rd m1 m60
  have A := Rm.al_book O
  walk_at "go"
  refine ⟨_, _, rfl, Rm.get_limbs R, ?_⟩
  walk_at "go"
  refine ⟨_, _, rfl, Rm.get_parts R, ?_⟩
  walk_at "go"
  refine ⟨(by show 2 ≤ sizeLine; omega), ?_⟩
  intro b hb; generalize eH : L2.upd _ b _ = H2; have s2 := L2.same_of hb eH; have t2 := L2.at_of eH; clear eH
  have B : Rm.BookAt H2 b z.pl z.pp ls qs m.limbs m.parts := ⟨t2, s2 _ _ el, al.mono fun b x h => s2 _ _ h, s2 _ _ eq, aq.mono fun b x h => Rm.PartAt.same s2 h⟩
  walk_at "go"
  refine ⟨rfl, ?_⟩
  walk_at "go"
  refine ⟨b, z.pl, z.pp, ls, qs, _, _, rfl, B, O, fun l H3 s3 hl3 e3 => ?_⟩
  walk_at "go"
  refine ⟨_, l, _, rfl, rfl, SqL.of e3, Rm.rows_ok O, ?_⟩
  walk_at "go"
  refine ⟨m.limbs, m.parts, rfl, D, fun c pl pp las pas H4 s4 hpl hpp npp C => ?_⟩
  have s24 := s3.trans s4
  walk_at "go"
  refine ⟨_, _, _, rfl, C.dv, (B.same s24).dv, A, ?_⟩
  walk_at "go"
  refine iteF ?_
  walk_at "go"
  refine ⟨c, _, _, _, rfl, rfl, SqT.of C.t, Rm.at0, ?_⟩
  walk_at "go"
  refine ⟨.inl ⟨rfl, _, SqL.of C.l⟩, ?_⟩
  walk_at "go"
  refine ⟨(by show 2 ≤ sizeLine; omega), ?_⟩
  intro p5 hp5; generalize eH : L2.upd _ p5 _ = H5; have s5 := L2.same_of hp5 eH; have t5 := L2.at_of eH; clear eH
  walk_at "go"
  have l8 := O.l8
  have lal := C.la.1
  refine ⟨pl, _, _, rfl, rfl, s5 _ _ C.l, by rw [List.length_map]; omega, ?_⟩
  have n4 : ∀ {x u}, H3 x = some u → x ≠ pl := fun h => ne_of_none h hpl
  have n5 : ∀ {x u}, H3 x = some u → x ≠ pp := fun h => ne_of_none h hpp
  have s36 : Same H3 (upd H5 pl (.lst (las.map V.ref ++ [.ref p5]))) := fun x u h => (upd_ne (n4 h)).trans (s5 _ _ (s4 _ _ h))
  have c6 : upd H5 pl (.lst (las.map V.ref ++ [.ref p5])) c = some (.tup [.ref pl, .ref pp]) := (upd_ne (ne_of C.t C.l (fun z => by cases z))).trans (s5 _ _ C.t)
  have p6 : upd H5 pl (.lst (las.map V.ref ++ [.ref p5])) pp = some (.lst (pas.map V.ref)) := (upd_ne npp.symm).trans (s5 _ _ C.p)
  generalize upd H5 pl (.lst (las.map V.ref ++ [.ref p5])) = H6 at s36 c6 p6 ⊢
  walk_at "go"
  refine ⟨c, _, _, _, rfl, rfl, SqT.of c6, atI_nat (j := 1) rfl, ?_⟩
  walk_at "go"
  refine ⟨.inl ⟨rfl, _, SqL.of p6⟩, ?_⟩
  refine ⟨pp, _, rfl, rfl, p6, ?_⟩
  have s37 : Same H3 (upd H6 pp (.lst [])) := fun x u h => (upd_ne (n5 h)).trans (s36 _ _ h)
  generalize upd H6 pp (.lst []) = H7 at s37 ⊢
  walk_at "go"
  refine ⟨m.limbs, m.parts, rfl, D, fun c8 pl8 pp8 las8 pas8 H8 s8 _ _ _ C8 => ?_⟩
  walk_at "go"
  refine ⟨_, _, _, rfl, C8.dv, (B.same (s3.trans (s37.trans s8))).dv, A, ?_⟩
  exact q _
theorem all_law (T : Txt K mg t) : FnOk P w K mg base CX0 8 t.a_law t.d_law ["_law_script"] (Pr.sp_law K) := by
  have G_numbers_of : FnOk P w K mg base CX0 1 t.a_numbers_of t.d_numbers_of _ _ := ok_numbers_of T
  have G_all_among : FnOk P w K mg base CX0 1 t.a_all_among t.d_all_among _ _ := ok_all_among T
  have G_is_word : FnOk P w K mg base CX0 2 t.a_is_word t.d_is_word _ _ := ok_is_word T G_all_among
  have G_number_of : FnOk P w K mg base CX0 2 t.a_number_of t.d_number_of _ _ := ok_number_of T G_all_among
  have G_bounded : FnOk P w K mg base CX0 3 t.a_bounded t.d_bounded _ _ := ok_bounded T G_number_of
  have G_value_of : FnOk P w K mg base CX0 4 t.a_value_of t.d_value_of _ _ := ok_value_of T G_is_word G_bounded
  have G_names_form : FnOk P w K mg base CX0 1 t.a_names_form t.d_names_form _ _ := ok_names_form T
  have G_form_of : FnOk P w K mg base CX0 5 t.a_form_of t.d_form_of _ _ := ok_form_of T G_value_of G_names_form
  have G_part_of : FnOk P w K mg base CX0 6 t.a_part_of t.d_part_of _ _ := ok_part_of T G_is_word G_form_of
  have G_limbs_of : FnOk P w K mg base CX0 4 t.a_limbs_of t.d_limbs_of _ _ := ok_limbs_of T G_is_word G_bounded
  have G_read : FnOk P w K mg base CX0 7 t.a_read t.d_read _ _ := ok_read T G_numbers_of G_part_of G_limbs_of
  have G__law_cell_at : FnOk P w K mg base CX0 1 t.a__law_cell_at t.d__law_cell_at _ _ := ok__law_cell_at T
  have G__law_window : FnOk P w K mg base CX0 1 t.a__law_window t.d__law_window _ _ := ok__law_window T
  have G__law_stream : FnOk P w K mg base CX0 1 t.a__law_stream t.d__law_stream _ _ := ok__law_stream T
  have G__law_names : FnOk P w K mg base CX0 2 t.a__law_names t.d__law_names _ _ := ok__law_names T G__law_stream
  have G__law_number : FnOk P w K mg base CX0 1 t.a__law_number t.d__law_number _ _ := ok__law_number T
  have G__law_add : FnOk P w K mg base CX0 1 t.a__law_add t.d__law_add _ _ := ok__law_add T
  have G__law_simple : FnOk P w K mg base CX0 2 t.a__law_simple t.d__law_simple _ _ := ok__law_simple T G__law_window G__law_number G__law_add
  have G__law_there : FnOk P w K mg base CX0 1 t.a__law_there t.d__law_there _ _ := ok__law_there T
  have G__law_apart : FnOk P w K mg base CX0 2 t.a__law_apart t.d__law_apart _ _ := ok__law_apart T G__law_there
  have G__law_naming : FnOk P w K mg base CX0 3 t.a__law_naming t.d__law_naming _ _ := ok__law_naming T G__law_window G__law_number G__law_add G__law_simple G__law_there G__law_apart
  have G__law_room : FnOk P w K mg base CX0 4 t.a__law_room t.d__law_room _ _ := ok__law_room T G__law_cell_at G__law_window G__law_stream G__law_names G__law_number G__law_simple G__law_naming
  have G__law_rows : FnOk P w K mg base CX0 1 t.a__law_rows t.d__law_rows _ _ := ok__law_rows T
  have G__law_alike : FnOk P w K mg base CX0 7 t.a__law_alike t.d__law_alike _ _ := ok__law_alike T (ok__law_alike T (ok__law_alike T (ok__law_alike T (ok__law_alike T (ok__law_alike T (base__law_alike T))))))
  exact ok_law T G_read G__law_room G__law_rows G__law_alike
end
@[elab_as_elim] theorem uu1 {P : List Value → Prop} (us : List Value) (hl : us.length = 1) (h : ∀ a0, P [a0]) : P us := match us, hl with | [a0], _ => h a0
@[elab_as_elim] theorem uu2 {P : List Value → Prop} (us : List Value) (hl : us.length = 2) (h : ∀ a0 a1, P [a0, a1]) : P us := match us, hl with | [a0, a1], _ => h a0 a1
@[elab_as_elim] theorem uu3 {P : List Value → Prop} (us : List Value) (hl : us.length = 3) (h : ∀ a0 a1 a2, P [a0, a1, a2]) : P us := match us, hl with | [a0, a1, a2], _ => h a0 a1 a2
@[elab_as_elim] theorem uu4 {P : List Value → Prop} (us : List Value) (hl : us.length = 4) (h : ∀ a0 a1 a2 a3, P [a0, a1, a2, a3]) : P us := match us, hl with | [a0, a1, a2, a3], _ => h a0 a1 a2 a3
theorem txt_mk {K : PySem.W.Frag} {h : Heap} {mg : Str → Option Value} (X : K.In h) (G : h.Ns mainGlobals mg)
    {od1 an1 : Option Addr} {sl1 : Array (Option Value)} {oc1 kV1 dc1 pm1 cd1 ct1 : Value} {f1 : Addr}
    (a1 : PySem.W.nsIn K mainGlobals "all_among" = some (some (.ref f1))) (l1 : K.lookup f1 = some ⟨oc1, od1, .func (PySem.W.fnOf "all_among" "all_among" (defArgs s_all_among) (defBody s_all_among) (defScope s_all_among) .none kV1 dc1 pm1 an1 cd1 ct1), sl1⟩) (c1 : PySem.W.codeIn K cd1 "all_among" = true) (k1 : PySem.W.keepIn K (.ref f1) = true)
    {od2 an2 : Option Addr} {sl2 : Array (Option Value)} {oc2 kV2 dc2 pm2 cd2 ct2 : Value} {f2 : Addr}
    (a2 : PySem.W.nsIn K mainGlobals "is_word" = some (some (.ref f2))) (l2 : K.lookup f2 = some ⟨oc2, od2, .func (PySem.W.fnOf "is_word" "is_word" (defArgs s_is_word) (defBody s_is_word) (defScope s_is_word) .none kV2 dc2 pm2 an2 cd2 ct2), sl2⟩) (c2 : PySem.W.codeIn K cd2 "is_word" = true) (k2 : PySem.W.keepIn K (.ref f2) = true)
    {od3 an3 : Option Addr} {sl3 : Array (Option Value)} {oc3 kV3 dc3 pm3 cd3 ct3 : Value} {f3 : Addr} {T3 : Addr} {ot3 : Value} {otd3 : Option Addr} {ost3 : Array (Option Value)} {n3 : Nat} {tk0_3 : Tok}
    (a3 : PySem.W.nsIn K mainGlobals "number_of" = some (some (.ref f3))) (l3 : K.lookup f3 = some ⟨oc3, od3, .func (PySem.W.fnOf "number_of" "number_of" (defArgs s_number_of) (defBody s_number_of) (defScope s_number_of) (.ref T3) kV3 dc3 pm3 an3 cd3 ct3), sl3⟩) (c3 : PySem.W.codeIn K cd3 "number_of" = true) (k3 : PySem.W.keepIn K (.ref f3) = true) (t3 : K.lookup T3 = some ⟨ot3, otd3, .seq #[.int 80 tk0_3] n3, ost3⟩)
    {od4 an4 : Option Addr} {sl4 : Array (Option Value)} {oc4 kV4 dc4 pm4 cd4 ct4 : Value} {f4 : Addr}
    (a4 : PySem.W.nsIn K mainGlobals "numbers_of" = some (some (.ref f4))) (l4 : K.lookup f4 = some ⟨oc4, od4, .func (PySem.W.fnOf "numbers_of" "numbers_of" (defArgs s_numbers_of) (defBody s_numbers_of) (defScope s_numbers_of) .none kV4 dc4 pm4 an4 cd4 ct4), sl4⟩) (c4 : PySem.W.codeIn K cd4 "numbers_of" = true) (k4 : PySem.W.keepIn K (.ref f4) = true)
    {od5 an5 : Option Addr} {sl5 : Array (Option Value)} {oc5 kV5 dc5 pm5 cd5 ct5 : Value} {f5 : Addr}
    (a5 : PySem.W.nsIn K mainGlobals "bounded" = some (some (.ref f5))) (l5 : K.lookup f5 = some ⟨oc5, od5, .func (PySem.W.fnOf "bounded" "bounded" (defArgs s_bounded) (defBody s_bounded) (defScope s_bounded) .none kV5 dc5 pm5 an5 cd5 ct5), sl5⟩) (c5 : PySem.W.codeIn K cd5 "bounded" = true) (k5 : PySem.W.keepIn K (.ref f5) = true)
    {od6 an6 : Option Addr} {sl6 : Array (Option Value)} {oc6 kV6 dc6 pm6 cd6 ct6 : Value} {f6 : Addr}
    (a6 : PySem.W.nsIn K mainGlobals "value_of" = some (some (.ref f6))) (l6 : K.lookup f6 = some ⟨oc6, od6, .func (PySem.W.fnOf "value_of" "value_of" (defArgs s_value_of) (defBody s_value_of) (defScope s_value_of) .none kV6 dc6 pm6 an6 cd6 ct6), sl6⟩) (c6 : PySem.W.codeIn K cd6 "value_of" = true) (k6 : PySem.W.keepIn K (.ref f6) = true)
    {od7 an7 : Option Addr} {sl7 : Array (Option Value)} {oc7 kV7 dc7 pm7 cd7 ct7 : Value} {f7 : Addr}
    (a7 : PySem.W.nsIn K mainGlobals "names_form" = some (some (.ref f7))) (l7 : K.lookup f7 = some ⟨oc7, od7, .func (PySem.W.fnOf "names_form" "names_form" (defArgs s_names_form) (defBody s_names_form) (defScope s_names_form) .none kV7 dc7 pm7 an7 cd7 ct7), sl7⟩) (c7 : PySem.W.codeIn K cd7 "names_form" = true) (k7 : PySem.W.keepIn K (.ref f7) = true)
    {od8 an8 : Option Addr} {sl8 : Array (Option Value)} {oc8 kV8 dc8 pm8 cd8 ct8 : Value} {f8 : Addr}
    (a8 : PySem.W.nsIn K mainGlobals "form_of" = some (some (.ref f8))) (l8 : K.lookup f8 = some ⟨oc8, od8, .func (PySem.W.fnOf "form_of" "form_of" (defArgs s_form_of) (defBody s_form_of) (defScope s_form_of) .none kV8 dc8 pm8 an8 cd8 ct8), sl8⟩) (c8 : PySem.W.codeIn K cd8 "form_of" = true) (k8 : PySem.W.keepIn K (.ref f8) = true)
    {od9 an9 : Option Addr} {sl9 : Array (Option Value)} {oc9 kV9 dc9 pm9 cd9 ct9 : Value} {f9 : Addr}
    (a9 : PySem.W.nsIn K mainGlobals "part_of" = some (some (.ref f9))) (l9 : K.lookup f9 = some ⟨oc9, od9, .func (PySem.W.fnOf "part_of" "part_of" (defArgs s_part_of) (defBody s_part_of) (defScope s_part_of) .none kV9 dc9 pm9 an9 cd9 ct9), sl9⟩) (c9 : PySem.W.codeIn K cd9 "part_of" = true) (k9 : PySem.W.keepIn K (.ref f9) = true)
    {od10 an10 : Option Addr} {sl10 : Array (Option Value)} {oc10 kV10 dc10 pm10 cd10 ct10 : Value} {f10 : Addr}
    (a10 : PySem.W.nsIn K mainGlobals "limbs_of" = some (some (.ref f10))) (l10 : K.lookup f10 = some ⟨oc10, od10, .func (PySem.W.fnOf "limbs_of" "limbs_of" (defArgs s_limbs_of) (defBody s_limbs_of) (defScope s_limbs_of) .none kV10 dc10 pm10 an10 cd10 ct10), sl10⟩) (c10 : PySem.W.codeIn K cd10 "limbs_of" = true) (k10 : PySem.W.keepIn K (.ref f10) = true)
    {od11 an11 : Option Addr} {sl11 : Array (Option Value)} {oc11 kV11 dc11 pm11 cd11 ct11 : Value} {f11 : Addr}
    (a11 : PySem.W.nsIn K mainGlobals "read" = some (some (.ref f11))) (l11 : K.lookup f11 = some ⟨oc11, od11, .func (PySem.W.fnOf "read" "read" (defArgs s_read) (defBody s_read) (defScope s_read) .none kV11 dc11 pm11 an11 cd11 ct11), sl11⟩) (c11 : PySem.W.codeIn K cd11 "read" = true) (k11 : PySem.W.keepIn K (.ref f11) = true)
    {od12 an12 : Option Addr} {sl12 : Array (Option Value)} {oc12 kV12 dc12 pm12 cd12 ct12 : Value} {f12 : Addr}
    (a12 : PySem.W.nsIn K mainGlobals "_law_cell_at" = some (some (.ref f12))) (l12 : K.lookup f12 = some ⟨oc12, od12, .func (PySem.W.fnOf "_law_cell_at" "_law_cell_at" (defArgs s__law_cell_at) (defBody s__law_cell_at) (defScope s__law_cell_at) .none kV12 dc12 pm12 an12 cd12 ct12), sl12⟩) (c12 : PySem.W.codeIn K cd12 "_law_cell_at" = true) (k12 : PySem.W.keepIn K (.ref f12) = true)
    {od13 an13 : Option Addr} {sl13 : Array (Option Value)} {oc13 kV13 dc13 pm13 cd13 ct13 : Value} {f13 : Addr}
    (a13 : PySem.W.nsIn K mainGlobals "_law_window" = some (some (.ref f13))) (l13 : K.lookup f13 = some ⟨oc13, od13, .func (PySem.W.fnOf "_law_window" "_law_window" (defArgs s__law_window) (defBody s__law_window) (defScope s__law_window) .none kV13 dc13 pm13 an13 cd13 ct13), sl13⟩) (c13 : PySem.W.codeIn K cd13 "_law_window" = true) (k13 : PySem.W.keepIn K (.ref f13) = true)
    {od14 an14 : Option Addr} {sl14 : Array (Option Value)} {oc14 kV14 dc14 pm14 cd14 ct14 : Value} {f14 : Addr}
    (a14 : PySem.W.nsIn K mainGlobals "_law_stream" = some (some (.ref f14))) (l14 : K.lookup f14 = some ⟨oc14, od14, .func (PySem.W.fnOf "_law_stream" "_law_stream" (defArgs s__law_stream) (defBody s__law_stream) (defScope s__law_stream) .none kV14 dc14 pm14 an14 cd14 ct14), sl14⟩) (c14 : PySem.W.codeIn K cd14 "_law_stream" = true) (k14 : PySem.W.keepIn K (.ref f14) = true)
    {od15 an15 : Option Addr} {sl15 : Array (Option Value)} {oc15 kV15 dc15 pm15 cd15 ct15 : Value} {f15 : Addr}
    (a15 : PySem.W.nsIn K mainGlobals "_law_names" = some (some (.ref f15))) (l15 : K.lookup f15 = some ⟨oc15, od15, .func (PySem.W.fnOf "_law_names" "_law_names" (defArgs s__law_names) (defBody s__law_names) (defScope s__law_names) .none kV15 dc15 pm15 an15 cd15 ct15), sl15⟩) (c15 : PySem.W.codeIn K cd15 "_law_names" = true) (k15 : PySem.W.keepIn K (.ref f15) = true)
    {od16 an16 : Option Addr} {sl16 : Array (Option Value)} {oc16 kV16 dc16 pm16 cd16 ct16 : Value} {f16 : Addr}
    (a16 : PySem.W.nsIn K mainGlobals "_law_number" = some (some (.ref f16))) (l16 : K.lookup f16 = some ⟨oc16, od16, .func (PySem.W.fnOf "_law_number" "_law_number" (defArgs s__law_number) (defBody s__law_number) (defScope s__law_number) .none kV16 dc16 pm16 an16 cd16 ct16), sl16⟩) (c16 : PySem.W.codeIn K cd16 "_law_number" = true) (k16 : PySem.W.keepIn K (.ref f16) = true)
    {od17 an17 : Option Addr} {sl17 : Array (Option Value)} {oc17 kV17 dc17 pm17 cd17 ct17 : Value} {f17 : Addr}
    (a17 : PySem.W.nsIn K mainGlobals "_law_add" = some (some (.ref f17))) (l17 : K.lookup f17 = some ⟨oc17, od17, .func (PySem.W.fnOf "_law_add" "_law_add" (defArgs s__law_add) (defBody s__law_add) (defScope s__law_add) .none kV17 dc17 pm17 an17 cd17 ct17), sl17⟩) (c17 : PySem.W.codeIn K cd17 "_law_add" = true) (k17 : PySem.W.keepIn K (.ref f17) = true)
    {od18 an18 : Option Addr} {sl18 : Array (Option Value)} {oc18 kV18 dc18 pm18 cd18 ct18 : Value} {f18 : Addr}
    (a18 : PySem.W.nsIn K mainGlobals "_law_simple" = some (some (.ref f18))) (l18 : K.lookup f18 = some ⟨oc18, od18, .func (PySem.W.fnOf "_law_simple" "_law_simple" (defArgs s__law_simple) (defBody s__law_simple) (defScope s__law_simple) .none kV18 dc18 pm18 an18 cd18 ct18), sl18⟩) (c18 : PySem.W.codeIn K cd18 "_law_simple" = true) (k18 : PySem.W.keepIn K (.ref f18) = true)
    {od19 an19 : Option Addr} {sl19 : Array (Option Value)} {oc19 kV19 dc19 pm19 cd19 ct19 : Value} {f19 : Addr}
    (a19 : PySem.W.nsIn K mainGlobals "_law_there" = some (some (.ref f19))) (l19 : K.lookup f19 = some ⟨oc19, od19, .func (PySem.W.fnOf "_law_there" "_law_there" (defArgs s__law_there) (defBody s__law_there) (defScope s__law_there) .none kV19 dc19 pm19 an19 cd19 ct19), sl19⟩) (c19 : PySem.W.codeIn K cd19 "_law_there" = true) (k19 : PySem.W.keepIn K (.ref f19) = true)
    {od20 an20 : Option Addr} {sl20 : Array (Option Value)} {oc20 kV20 dc20 pm20 cd20 ct20 : Value} {f20 : Addr}
    (a20 : PySem.W.nsIn K mainGlobals "_law_apart" = some (some (.ref f20))) (l20 : K.lookup f20 = some ⟨oc20, od20, .func (PySem.W.fnOf "_law_apart" "_law_apart" (defArgs s__law_apart) (defBody s__law_apart) (defScope s__law_apart) .none kV20 dc20 pm20 an20 cd20 ct20), sl20⟩) (c20 : PySem.W.codeIn K cd20 "_law_apart" = true) (k20 : PySem.W.keepIn K (.ref f20) = true)
    {od21 an21 : Option Addr} {sl21 : Array (Option Value)} {oc21 kV21 dc21 pm21 cd21 ct21 : Value} {f21 : Addr}
    (a21 : PySem.W.nsIn K mainGlobals "_law_naming" = some (some (.ref f21))) (l21 : K.lookup f21 = some ⟨oc21, od21, .func (PySem.W.fnOf "_law_naming" "_law_naming" (defArgs s__law_naming) (defBody s__law_naming) (defScope s__law_naming) .none kV21 dc21 pm21 an21 cd21 ct21), sl21⟩) (c21 : PySem.W.codeIn K cd21 "_law_naming" = true) (k21 : PySem.W.keepIn K (.ref f21) = true)
    {od22 an22 : Option Addr} {sl22 : Array (Option Value)} {oc22 kV22 dc22 pm22 cd22 ct22 : Value} {f22 : Addr}
    (a22 : PySem.W.nsIn K mainGlobals "_law_room" = some (some (.ref f22))) (l22 : K.lookup f22 = some ⟨oc22, od22, .func (PySem.W.fnOf "_law_room" "_law_room" (defArgs s__law_room) (defBody s__law_room) (defScope s__law_room) .none kV22 dc22 pm22 an22 cd22 ct22), sl22⟩) (c22 : PySem.W.codeIn K cd22 "_law_room" = true) (k22 : PySem.W.keepIn K (.ref f22) = true)
    {od23 an23 : Option Addr} {sl23 : Array (Option Value)} {oc23 kV23 dc23 pm23 cd23 ct23 : Value} {f23 : Addr}
    (a23 : PySem.W.nsIn K mainGlobals "_law_rows" = some (some (.ref f23))) (l23 : K.lookup f23 = some ⟨oc23, od23, .func (PySem.W.fnOf "_law_rows" "_law_rows" (defArgs s__law_rows) (defBody s__law_rows) (defScope s__law_rows) .none kV23 dc23 pm23 an23 cd23 ct23), sl23⟩) (c23 : PySem.W.codeIn K cd23 "_law_rows" = true) (k23 : PySem.W.keepIn K (.ref f23) = true)
    {od24 an24 : Option Addr} {sl24 : Array (Option Value)} {oc24 kV24 dc24 pm24 cd24 ct24 : Value} {f24 : Addr}
    (a24 : PySem.W.nsIn K mainGlobals "_law_alike" = some (some (.ref f24))) (l24 : K.lookup f24 = some ⟨oc24, od24, .func (PySem.W.fnOf "_law_alike" "_law_alike" (defArgs s__law_alike) (defBody s__law_alike) (defScope s__law_alike) .none kV24 dc24 pm24 an24 cd24 ct24), sl24⟩) (c24 : PySem.W.codeIn K cd24 "_law_alike" = true) (k24 : PySem.W.keepIn K (.ref f24) = true)
    {od25 an25 : Option Addr} {sl25 : Array (Option Value)} {oc25 kV25 dc25 pm25 cd25 ct25 : Value} {f25 : Addr}
    (a25 : PySem.W.nsIn K mainGlobals "law" = some (some (.ref f25))) (l25 : K.lookup f25 = some ⟨oc25, od25, .func (PySem.W.fnOf "law" "law" (defArgs s_law) (defBody s_law) (defScope s_law) .none kV25 dc25 pm25 an25 cd25 ct25), sl25⟩) (c25 : PySem.W.codeIn K cd25 "law" = true) (k25 : PySem.W.keepIn K (.ref f25) = true)
    {u_FEWEST_NAMES : Addr}
    (g_FEWEST_NAMES : PySem.W.nsIn K mainGlobals "FEWEST_NAMES" = some (some (.ref u_FEWEST_NAMES))) (kk_FEWEST_NAMES : TabK K u_FEWEST_NAMES [("row", .flat (.int 1)), ("side", .flat (.int 2))])
    {tkc_FIGURES : Tok}
    (g_FIGURES : PySem.W.nsIn K mainGlobals "FIGURES" = some (some (.str "0123456789" tkc_FIGURES)))
    {u_FORMS : Addr}
    (g_FORMS : PySem.W.nsIn K mainGlobals "FORMS" = some (some (.ref u_FORMS))) (kk_FORMS : TabK K u_FORMS [("raise", .tup [.str "limb", .str "height", .str "beats"]), ("hold", .tup [.str "beats"]), ("ring", .tup [.str "word", .str "beats"]), ("again", .tup [.str "times", .str "part"])])
    {tkc_LETTERS : Tok}
    (g_LETTERS : PySem.W.nsIn K mainGlobals "LETTERS" = some (some (.str "abcdefghijklmnopqrstuvwxyz" tkc_LETTERS)))
    {u_MOST_NAMES : Addr}
    (g_MOST_NAMES : PySem.W.nsIn K mainGlobals "MOST_NAMES" = some (some (.ref u_MOST_NAMES))) (kk_MOST_NAMES : TabK K u_MOST_NAMES [("row", .flat (.int 8)), ("side", .flat (.int 4))])
    (z0 : PySem.W.nsIn K mainGlobals "all" = some none) (z1 : PySem.W.nsIn K mainGlobals "bool" = some none) (z2 : PySem.W.nsIn K mainGlobals "enumerate" = some none) (z3 : PySem.W.nsIn K mainGlobals "int" = some none) (z4 : PySem.W.nsIn K mainGlobals "isinstance" = some none) (z5 : PySem.W.nsIn K mainGlobals "len" = some none) (z6 : PySem.W.nsIn K mainGlobals "list" = some none) (z7 : PySem.W.nsIn K mainGlobals "max" = some none) (z8 : PySem.W.nsIn K mainGlobals "min" = some none) (z9 : PySem.W.nsIn K mainGlobals "range" = some none) (z10 : PySem.W.nsIn K mainGlobals "set" = some none) (z11 : PySem.W.nsIn K mainGlobals "sorted" = some none) (z12 : PySem.W.nsIn K mainGlobals "str" = some none) (z13 : PySem.W.nsIn K mainGlobals "sum" = some none) (z14 : PySem.W.nsIn K mainGlobals "tuple" = some none) (z15 : PySem.W.nsIn K mainGlobals "zip" = some none) :
    ∃ t : Ad, Txt K mg t ∧ ∃ (kV dc pm : Value) (an : Option Addr) (cd ct : Value), t.d_law = PySem.W.fnOf "law" "law" (defArgs s_law) (defBody s_law) (defScope s_law) .none kV dc pm an cd ct := by
  have F1 := fun_mk (st := s_all_among) l1 c1 k1
  have F2 := fun_mk (st := s_is_word) l2 c2 k2
  have F3 := funD_mk (st := s_number_of) l3 c3 k3
  have F4 := fun_mk (st := s_numbers_of) l4 c4 k4
  have F5 := fun_mk (st := s_bounded) l5 c5 k5
  have F6 := fun_mk (st := s_value_of) l6 c6 k6
  have F7 := fun_mk (st := s_names_form) l7 c7 k7
  have F8 := fun_mk (st := s_form_of) l8 c8 k8
  have F9 := fun_mk (st := s_part_of) l9 c9 k9
  have F10 := fun_mk (st := s_limbs_of) l10 c10 k10
  have F11 := fun_mk (st := s_read) l11 c11 k11
  have F12 := fun_mk (st := s__law_cell_at) l12 c12 k12
  have F13 := fun_mk (st := s__law_window) l13 c13 k13
  have F14 := fun_mk (st := s__law_stream) l14 c14 k14
  have F15 := fun_mk (st := s__law_names) l15 c15 k15
  have F16 := fun_mk (st := s__law_number) l16 c16 k16
  have F17 := fun_mk (st := s__law_add) l17 c17 k17
  have F18 := fun_mk (st := s__law_simple) l18 c18 k18
  have F19 := fun_mk (st := s__law_there) l19 c19 k19
  have F20 := fun_mk (st := s__law_apart) l20 c20 k20
  have F21 := fun_mk (st := s__law_naming) l21 c21 k21
  have F22 := fun_mk (st := s__law_room) l22 c22 k22
  have F23 := fun_mk (st := s__law_rows) l23 c23 k23
  have F24 := fun_mk (st := s__law_alike) l24 c24 k24
  have F25 := fun_mk (st := s_law) l25 c25 k25
  exact ⟨⟨f1, _, f2, _, f3, _, T3, f4, _, f5, _, f6, _, f7, _, f8, _, f9, _, f10, _, f11, _, f12, _, f13, _, f14, _, f15, _, f16, _, f17, _, f18, _, f19, _, f20, _, f21, _, f22, _, f23, _, f24, _, f25, _, _, _, _, _, _⟩, ⟨F1, PySem.W.mg_of X G a1, (F1.binds (ps := ["text", "signs"]) fun _ _ _ _ _ _ us hl => uu2 us hl (fun _ _ => rfl)),
    F2, PySem.W.mg_of X G a2, (F2.binds (ps := ["text"]) fun _ _ _ _ _ _ us hl => uu1 us hl (fun _ => rfl)),
    F3, PySem.W.mg_of X G a3, (FunD.binds (ps := ["text", "most"]) (ds := []) 2 F3 t3 rfl rfl fun _ _ _ _ _ _ us hl => match us, hl with | [_, _], _ => ⟨_, rfl, rfl⟩),
    F4, PySem.W.mg_of X G a4, (F4.binds (ps := ["named"]) fun _ _ _ _ _ _ us hl => uu1 us hl (fun _ => rfl)),
    F5, PySem.W.mg_of X G a5, (F5.binds (ps := ["text", "least"]) fun _ _ _ _ _ _ us hl => uu2 us hl (fun _ _ => rfl)),
    F6, PySem.W.mg_of X G a6, (F6.binds (ps := ["wanted", "text", "limbs", "parts"]) fun _ _ _ _ _ _ us hl => uu4 us hl (fun _ _ _ _ => rfl)),
    F7, PySem.W.mg_of X G a7, (F7.binds (ps := ["kind", "words", "parts"]) fun _ _ _ _ _ _ us hl => uu3 us hl (fun _ _ _ => rfl)),
    F8, PySem.W.mg_of X G a8, (F8.binds (ps := ["kind", "words", "limbs", "parts"]) fun _ _ _ _ _ _ us hl => uu4 us hl (fun _ _ _ _ => rfl)),
    F9, PySem.W.mg_of X G a9, (F9.binds (ps := ["words", "limbs", "parts"]) fun _ _ _ _ _ _ us hl => uu3 us hl (fun _ _ _ => rfl)),
    F10, PySem.W.mg_of X G a10, (F10.binds (ps := ["words"]) fun _ _ _ _ _ _ us hl => uu1 us hl (fun _ => rfl)),
    F11, PySem.W.mg_of X G a11, (F11.binds (ps := ["text"]) fun _ _ _ _ _ _ us hl => uu1 us hl (fun _ => rfl)),
    F12, PySem.W.mg_of X G a12, (F12.binds (ps := ["_law_script", "_law_k"]) fun _ _ _ _ _ _ us hl => uu2 us hl (fun _ _ => rfl)),
    F13, PySem.W.mg_of X G a13, (F13.binds (ps := ["_law_cell", "_law_turn"]) fun _ _ _ _ _ _ us hl => uu2 us hl (fun _ _ => rfl)),
    F14, PySem.W.mg_of X G a14, (F14.binds (ps := ["_law_cell", "_law_many"]) fun _ _ _ _ _ _ us hl => uu2 us hl (fun _ _ => rfl)),
    F15, PySem.W.mg_of X G a15, (F15.binds (ps := ["_law_cell", "_law_many"]) fun _ _ _ _ _ _ us hl => uu2 us hl (fun _ _ => rfl)),
    F16, PySem.W.mg_of X G a16, (F16.binds (ps := ["_law_cell", "_law_mixed", "_law_least"]) fun _ _ _ _ _ _ us hl => uu3 us hl (fun _ _ _ => rfl)),
    F17, PySem.W.mg_of X G a17, (F17.binds (ps := ["_law_room_here", "_law_form", "_law_hands", "_law_long"]) fun _ _ _ _ _ _ us hl => uu4 us hl (fun _ _ _ _ => rfl)),
    F18, PySem.W.mg_of X G a18, (F18.binds (ps := ["_law_room_here", "_law_cell", "_law_some"]) fun _ _ _ _ _ _ us hl => uu3 us hl (fun _ _ _ => rfl)),
    F19, PySem.W.mg_of X G a19, (F19.binds (ps := ["_law_room_here", "_law_number_here"]) fun _ _ _ _ _ _ us hl => uu2 us hl (fun _ _ => rfl)),
    F20, PySem.W.mg_of X G a20, (F20.binds (ps := ["_law_room_here", "_law_some"]) fun _ _ _ _ _ _ us hl => uu2 us hl (fun _ _ => rfl)),
    F21, PySem.W.mg_of X G a21, (F21.binds (ps := ["_law_room_here", "_law_cell", "_law_some"]) fun _ _ _ _ _ _ us hl => uu3 us hl (fun _ _ _ => rfl)),
    F22, PySem.W.mg_of X G a22, (F22.binds (ps := ["_law_script"]) fun _ _ _ _ _ _ us hl => uu1 us hl (fun _ => rfl)),
    F23, PySem.W.mg_of X G a23, (F23.binds (ps := ["_law_book"]) fun _ _ _ _ _ _ us hl => uu1 us hl (fun _ => rfl)),
    F24, PySem.W.mg_of X G a24, (F24.binds (ps := ["_law_found", "_law_due"]) fun _ _ _ _ _ _ us hl => uu2 us hl (fun _ _ => rfl)),
    F25, PySem.W.mg_of X G a25, (F25.binds (ps := ["_law_script"]) fun _ _ _ _ _ _ us hl => uu1 us hl (fun _ => rfl)),
    PySem.W.mg_none_of X G z0,
    PySem.W.mg_none_of X G z1,
    PySem.W.mg_none_of X G z2,
    PySem.W.mg_none_of X G z3,
    PySem.W.mg_none_of X G z4,
    PySem.W.mg_none_of X G z5,
    PySem.W.mg_none_of X G z6,
    PySem.W.mg_none_of X G z7,
    PySem.W.mg_none_of X G z8,
    PySem.W.mg_none_of X G z9,
    PySem.W.mg_none_of X G z10,
    PySem.W.mg_none_of X G z11,
    PySem.W.mg_none_of X G z12,
    PySem.W.mg_none_of X G z13,
    PySem.W.mg_none_of X G z14,
    PySem.W.mg_none_of X G z15,
    PySem.W.mg_of X G g_FEWEST_NAMES, kk_FEWEST_NAMES,
    PySem.W.mg_of X G g_FIGURES, ⟨_, rfl⟩,
    PySem.W.mg_of X G g_FORMS, kk_FORMS,
    PySem.W.mg_of X G g_LETTERS, ⟨_, rfl⟩,
    PySem.W.mg_of X G g_MOST_NAMES, kk_MOST_NAMES⟩, _, _, _, _, _, _, rfl⟩
end K08
open PySem PySem.W PyProof.Rows
set_option maxRecDepth 100000 in
set_option maxHeartbeats 0 in
theorem PySem.Challenge.cw_camplay_k08_books_read_holds : PySem.Challenge.rw_camplay_k08_books_read.Holds := by
  w_on; o_law; k_head; (case hw => w_witness2)
  k_fill
  refine L2.walk_ofB (l := PySem.Challenge.rw_camplay_k08_books_read) (n := 63) (k := 8) (x := "_law_script") (CX := L2.CX0) (sp := Pr.sp_law) rfl (by decide) rfl ⟨rfl, by decide, by decide⟩ (fun w h Y => PySem.W.kIn_of Y) ?F (fun K H a ns hl hb hO hS => ⟨a, ns, rfl, hS, hl, hb, fun _ => rfl⟩) (fun _ _ _ _ z => z)
  case F =>
    intro w mg fa h KX G hmg
    have TT : ∃ t : K08.Ad, K08.Txt (L2.KOf KX) mg t ∧ ∃ (kV dc pm : Value) (an : Option Addr) (cd ct : Value), t.d_law = PySem.W.fnOf "law" "law" (L2.defArgs K08.s_law) (L2.defBody K08.s_law) (L2.defScope K08.s_law) .none kV dc pm an cd ct := by
      dsimp only [L2.KOf]
      refine' K08.txt_mk KX G ?a1 ?l1 ?c1 ?k1 ?a2 ?l2 ?c2 ?k2 ?a3 ?l3 ?c3 ?k3 ?t3 ?a4 ?l4 ?c4 ?k4 ?a5 ?l5 ?c5 ?k5 ?a6 ?l6 ?c6 ?k6 ?a7 ?l7 ?c7 ?k7 ?a8 ?l8 ?c8 ?k8 ?a9 ?l9 ?c9 ?k9 ?a10 ?l10 ?c10 ?k10 ?a11 ?l11 ?c11 ?k11 ?a12 ?l12 ?c12 ?k12 ?a13 ?l13 ?c13 ?k13 ?a14 ?l14 ?c14 ?k14 ?a15 ?l15 ?c15 ?k15 ?a16 ?l16 ?c16 ?k16 ?a17 ?l17 ?c17 ?k17 ?a18 ?l18 ?c18 ?k18 ?a19 ?l19 ?c19 ?k19 ?a20 ?l20 ?c20 ?k20 ?a21 ?l21 ?c21 ?k21 ?a22 ?l22 ?c22 ?k22 ?a23 ?l23 ?c23 ?k23 ?a24 ?l24 ?c24 ?k24 ?a25 ?l25 ?c25 ?k25 ?g_FEWEST_NAMES ?kk_FEWEST_NAMES ?g_FIGURES ?g_FORMS ?kk_FORMS ?g_LETTERS ?g_MOST_NAMES ?kk_MOST_NAMES ?z0 ?z1 ?z2 ?z3 ?z4 ?z5 ?z6 ?z7 ?z8 ?z9 ?z10 ?z11 ?z12 ?z13 ?z14 ?z15 
      (case a1 => k_is); (case l1 => k_is); (case c1 => k_is); (case k1 => k_is)
      (case a2 => k_is); (case l2 => k_is); (case c2 => k_is); (case k2 => k_is)
      (case a3 => k_is); (case l3 => k_is); (case c3 => k_is); (case k3 => k_is); (case t3 => k_is)
      (case a4 => k_is); (case l4 => k_is); (case c4 => k_is); (case k4 => k_is)
      (case a5 => k_is); (case l5 => k_is); (case c5 => k_is); (case k5 => k_is)
      (case a6 => k_is); (case l6 => k_is); (case c6 => k_is); (case k6 => k_is)
      (case a7 => k_is); (case l7 => k_is); (case c7 => k_is); (case k7 => k_is)
      (case a8 => k_is); (case l8 => k_is); (case c8 => k_is); (case k8 => k_is)
      (case a9 => k_is); (case l9 => k_is); (case c9 => k_is); (case k9 => k_is)
      (case a10 => k_is); (case l10 => k_is); (case c10 => k_is); (case k10 => k_is)
      (case a11 => k_is); (case l11 => k_is); (case c11 => k_is); (case k11 => k_is)
      (case a12 => k_is); (case l12 => k_is); (case c12 => k_is); (case k12 => k_is)
      (case a13 => k_is); (case l13 => k_is); (case c13 => k_is); (case k13 => k_is)
      (case a14 => k_is); (case l14 => k_is); (case c14 => k_is); (case k14 => k_is)
      (case a15 => k_is); (case l15 => k_is); (case c15 => k_is); (case k15 => k_is)
      (case a16 => k_is); (case l16 => k_is); (case c16 => k_is); (case k16 => k_is)
      (case a17 => k_is); (case l17 => k_is); (case c17 => k_is); (case k17 => k_is)
      (case a18 => k_is); (case l18 => k_is); (case c18 => k_is); (case k18 => k_is)
      (case a19 => k_is); (case l19 => k_is); (case c19 => k_is); (case k19 => k_is)
      (case a20 => k_is); (case l20 => k_is); (case c20 => k_is); (case k20 => k_is)
      (case a21 => k_is); (case l21 => k_is); (case c21 => k_is); (case k21 => k_is)
      (case a22 => k_is); (case l22 => k_is); (case c22 => k_is); (case k22 => k_is)
      (case a23 => k_is); (case l23 => k_is); (case c23 => k_is); (case k23 => k_is)
      (case a24 => k_is); (case l24 => k_is); (case c24 => k_is); (case k24 => k_is)
      (case a25 => k_is); (case l25 => k_is); (case c25 => k_is); (case k25 => k_is)
      (case g_FEWEST_NAMES => k_is); (case kk_FEWEST_NAMES => (show PyProof.Rows.KTD.tabLook _ _ _ _ = true); kernel_rfl)
      (case g_FIGURES => k_is)
      (case g_FORMS => k_is); (case kk_FORMS => (show PyProof.Rows.KTD.tabLook _ _ _ _ = true); kernel_rfl)
      (case g_LETTERS => k_is)
      (case g_MOST_NAMES => k_is); (case kk_MOST_NAMES => (show PyProof.Rows.KTD.tabLook _ _ _ _ = true); kernel_rfl)
      (case z0 => k_is)
      (case z1 => k_is)
      (case z2 => k_is)
      (case z3 => k_is)
      (case z4 => k_is)
      (case z5 => k_is)
      (case z6 => k_is)
      (case z7 => k_is)
      (case z8 => k_is)
      (case z9 => k_is)
      (case z10 => k_is)
      (case z11 => k_is)
      (case z12 => k_is)
      (case z13 => k_is)
      (case z14 => k_is)
      (case z15 => k_is)
    obtain ⟨t, T, kV, dc, pm, an, cd, ct, e⟩ := TT
    have e0 := hmg.symm.trans T.m_law
    cases e0
    refine ⟨t.d_law, fun s v => ?_, fun base _ _ => K08.all_law T⟩
    rw [e]
    exact .of_eq rfl
#print axioms PySem.Challenge.cw_camplay_k08_books_read_holds

