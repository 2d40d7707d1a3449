import PyProof.Rows.All
import Wide.All
import OpenK.AllK
import Wide.FinOn
import PySem.Challenge.RW_camplay_k01_floor_sum
set_option Elab.async false
namespace Fs

-- sums over Nat
def G (b s : Nat) : Nat → Nat → Nat
  | 0, _ => 0
  | m + 1, r => G b s m r + (b * m + r) / s

theorem G_add {b s : Nat} (hs : 0 < s) (r : Nat) : ∀ m, G b s m (r + s) = G b s m r + m
  | 0 => rfl
  | m + 1 => by
    have h := G_add (b := b) hs r m
    have e : (b * m + (r + s)) / s = (b * m + r) / s + 1 := by
      rw [← Nat.add_assoc, Nat.add_div_right _ hs]
    simp only [G]
    rw [h, e]
    omega

-- taking the first term out
theorem G_front (b s r : Nat) : ∀ m, G b s (m + 1) r = r / s + G b s m (b + r)
  | 0 => by simp [G]
  | m + 1 => by
    have h := G_front b s r m
    have e : b * (m + 1) + r = b * m + (b + r) := by rw [Nat.mul_add]; omega
    rw [G, h, e]
    simp only [G]
    omega

def F (s q b : Nat) : Nat → Nat
  | 0 => 0
  | n + 1 => F s q b n + (s * n + q) / b

theorem recip {b s q : Nat} (hsb : s < b) (hq : q < b) : ∀ n, F s q b n = G b s ((s * n + q) / b) ((s * n + q) % b)
  | 0 => by
    have e : (s * 0 + q) / b = 0 := by rw [Nat.mul_zero, Nat.zero_add]; exact Nat.div_eq_of_lt hq
    rw [e]; rfl
  | n + 1 => by
    have h := recip hsb hq n
    have hb : 0 < b := by omega
    have e : s * (n + 1) + q = s * n + q + s := by rw [Nat.mul_add]; omega
    simp only [F]
    rw [h, e]
    generalize hx : s * n + q = x
    have hd := Nat.div_add_mod x b
    have hm := Nat.mod_lt x hb
    generalize hM : x / b = M at *
    generalize hr : x % b = r at *
    by_cases hc : r + s < b
    · have e1 : (x + s) / b = M := by
        rw [show x + s = (r + s) + b * M by omega, Nat.add_mul_div_left _ _ hb, Nat.div_eq_of_lt hc, Nat.zero_add]
      have e2 : (x + s) % b = r + s := by
        rw [show x + s = (r + s) + b * M by omega, Nat.add_mul_mod_self_left, Nat.mod_eq_of_lt hc]
      rw [e1, e2]
      by_cases hs : 0 < s
      · rw [G_add hs]
      · have hs0 : s = 0 := by omega
        subst hs0
        have hxq : x = q := by rw [← hx]; simp
        have hM0 : M = 0 := by rw [← hM, hxq]; exact Nat.div_eq_of_lt hq
        rw [hM0]; rfl
    · have hs : 0 < s := by omega
      have e1 : (x + s) / b = M + 1 := by
        rw [show x + s = (r + s - b) + b * (M + 1) by rw [Nat.mul_add]; omega, Nat.add_mul_div_left _ _ hb, Nat.div_eq_of_lt (by omega), Nat.zero_add]
      have e2 : (x + s) % b = r + s - b := by
        rw [show x + s = (r + s - b) + b * (M + 1) by rw [Nat.mul_add]; omega, Nat.add_mul_mod_self_left, Nat.mod_eq_of_lt (by omega)]
      rw [e1, e2, G_front, Nat.div_eq_of_lt (by omega), show b + (r + s - b) = r + s by omega, G_add hs]
      omega

-- the floor sum, over ints
def fs : Nat → Int → Int → Int → Int
  | 0, _, _, _ => 0
  | n + 1, t, p, b => fs n t p b + Int.fdiv (t * (n : Int) + p) b

def fsum (many t p b : Int) : Int := fs many.toNat t p b

theorem fs_nat (s q b : Nat) : ∀ n, fs n (s : Int) (q : Int) (b : Int) = (F s q b n : Nat)
  | 0 => rfl
  | n + 1 => by
    rw [fs, F, fs_nat s q b n]
    rw [Int.fdiv_eq_ediv_of_nonneg _ (Int.natCast_nonneg b)]
    norm_cast
theorem G_fs (b s r : Nat) : ∀ m, (G b s m r : Nat) = fs m (b : Int) (r : Int) (s : Int)
  | 0 => rfl
  | m + 1 => by
    rw [fs, G, ← G_fs b s r m, Int.fdiv_eq_ediv_of_nonneg _ (Int.natCast_nonneg s)]
    norm_cast

def tri (n : Nat) : Int := Int.fdiv ((n : Int) * ((n : Int) - 1)) 2
theorem tri_succ (n : Nat) : tri (n + 1) = tri n + n := by
  unfold tri
  rw [Int.fdiv_eq_ediv_of_nonneg _ (by decide), Int.fdiv_eq_ediv_of_nonneg _ (by decide)]
  have e : ((n + 1 : Nat) : Int) * (((n + 1 : Nat) : Int) - 1) = (n : Int) * ((n : Int) - 1) + n * 2 := by
    have : ((n + 1 : Nat) : Int) = (n : Int) + 1 := by omega
    rw [this, show (n : Int) + 1 - 1 = n by omega, Int.add_mul, Int.mul_sub, Int.one_mul, Int.mul_one]
    omega
  rw [e, Int.add_mul_ediv_right _ _ (by decide)]

theorem split_term {b : Int} (hb : 0 < b) (t p j : Int) :
    Int.fdiv (t * j + p) b = j * Int.fdiv t b + Int.fdiv p b + Int.fdiv (Int.fmod t b * j + Int.fmod p b) b := by
  have hb' : (0 : Int) ≤ b := Int.le_of_lt hb
  simp only [Int.fdiv_eq_ediv_of_nonneg _ hb', Int.fmod_eq_emod_of_nonneg _ hb']
  have h1 := Int.mul_ediv_add_emod t b
  have h2 := Int.mul_ediv_add_emod p b
  have e : t * j + p = (t % b * j + p % b) + b * (j * (t / b) + p / b) := by
    have h3 : t * j = (b * (t / b) + t % b) * j := by rw [h1]
    have h4 : b * (t / b) * j = b * (j * (t / b)) := by rw [Int.mul_assoc, Int.mul_comm (t / b) j]
    rw [h3, Int.add_mul, Int.mul_add, h4]
    omega
  rw [e, Int.add_mul_ediv_left _ _ (by omega)]
  omega

theorem fs_split {b : Int} (hb : 0 < b) (t p : Int) : ∀ n, fs n t p b = tri n * Int.fdiv t b + (n : Int) * Int.fdiv p b + fs n (Int.fmod t b) (Int.fmod p b) b
  | 0 => by
    have : tri 0 = 0 := by decide
    rw [this]; simp [fs]
  | n + 1 => by
    rw [fs, fs, fs_split hb t p n, split_term hb, tri_succ, Int.add_mul]
    have : ((n + 1 : Nat) : Int) = (n : Int) + 1 := by omega
    rw [this, Int.add_mul, Int.one_mul]
    omega

theorem fs_turn {b : Int} (hb : 0 < b) (t p : Int) {m : Int} (hm : 0 ≤ m) :
    fsum m t p b = Int.fdiv (m * (m - 1)) 2 * Int.fdiv t b + m * Int.fdiv p b
      + fsum (Int.fdiv (Int.fmod t b * m + Int.fmod p b) b) b (Int.fmod (Int.fmod t b * m + Int.fmod p b) b) (Int.fmod t b) := by
  have h := fs_split hb t p m.toNat
  have hmm : ((m.toNat : Nat) : Int) = m := by omega
  unfold fsum
  rw [h]
  unfold tri
  rw [hmm]
  have s0 := Int.fmod_nonneg_of_pos t hb
  have s1 := Int.fmod_lt_of_pos t hb
  have q0 := Int.fmod_nonneg_of_pos p hb
  have q1 := Int.fmod_lt_of_pos p hb
  generalize Int.fmod t b = s at *
  generalize Int.fmod p b = q at *
  have key : fs m.toNat s q b = fs (Int.fdiv (s * m + q) b).toNat b (Int.fmod (s * m + q) b) s := by
    have eb : ((b.toNat : Nat) : Int) = b := by omega
    have es : ((s.toNat : Nat) : Int) = s := by omega
    have eq : ((q.toNat : Nat) : Int) = q := by omega
    have r := recip (b := b.toNat) (s := s.toNat) (q := q.toNat) (by omega) (by omega) m.toNat
    have f := fs_nat s.toNat q.toNat b.toNat m.toNat
    rw [eb, es, eq, r, G_fs, eb, es] at f
    have ed : Int.fdiv (s * m + q) b = (((s.toNat * m.toNat + q.toNat) / b.toNat : Nat) : Int) := by
      rw [Int.fdiv_eq_ediv_of_nonneg _ (by omega)]
      push_cast
      rw [eb, es, eq, hmm]
    have em : Int.fmod (s * m + q) b = (((s.toNat * m.toNat + q.toNat) % b.toNat : Nat) : Int) := by
      rw [Int.fmod_eq_emod_of_nonneg _ (by omega)]
      push_cast
      rw [eb, es, eq, hmm]
    rw [ed, em]
    exact f
  rw [key]

end Fs

namespace Fs
open PySem PySem.W
-- what the loop of floor_sum keeps: what is told so far and what is left make the whole
structure Inv (m₀ t₀ p₀ b₀ m t p b total : Int) : Prop where
  is : total + fsum m t p b = fsum m₀ t₀ p₀ b₀

abbrev BD : Int := 10 ^ 130

theorem fsum_zero {m : Int} (h : m ≤ 0) (t p b : Int) : fsum m t p b = 0 := by
  unfold fsum
  rw [show m.toNat = 0 by omega]
  rfl

theorem start {m t p b : Int} (h : 0 ≤ m ∧ m ≤ 10 ^ 130 ∧ -10 ^ 130 ≤ t ∧ t ≤ 10 ^ 130 ∧ -10 ^ 130 ≤ p ∧ p ≤ 10 ^ 130 ∧ 0 < b ∧ b ≤ 10 ^ 130) :
    0 ≤ m ∧ m ≤ 10 ^ 130 ∧ -10 ^ 130 ≤ t ∧ t ≤ 10 ^ 130 ∧ -10 ^ 130 ≤ p ∧ p ≤ 10 ^ 130 ∧ 0 ≤ b ∧ b ≤ 10 ^ 130 ∧ (0 < m → 0 < b) ∧ Inv m t p b m t p b 0 :=
  ⟨h.1, h.2.1, h.2.2.1, h.2.2.2.1, h.2.2.2.2.1, h.2.2.2.2.2.1, by omega, h.2.2.2.2.2.2.2, fun _ => h.2.2.2.2.2.2.1, ⟨Int.zero_add _⟩⟩

theorem turn {m₀ t₀ p₀ b₀ m t p b total : Int} (h : Inv m₀ t₀ p₀ b₀ m t p b total) (h0 : 0 < m) (h1 : m ≤ 10 ^ 130) (hb : 0 < b) (hb1 : b ≤ 10 ^ 130) :
    0 ≤ Int.fdiv (Int.fmod t b * m + Int.fmod p b) b ∧ Int.fdiv (Int.fmod t b * m + Int.fmod p b) b ≤ 10 ^ 130 ∧ -10 ^ 130 ≤ b ∧ b ≤ 10 ^ 130 ∧
    -10 ^ 130 ≤ Int.fmod (Int.fmod t b * m + Int.fmod p b) b ∧ Int.fmod (Int.fmod t b * m + Int.fmod p b) b ≤ 10 ^ 130 ∧ 0 ≤ Int.fmod t b ∧ Int.fmod t b ≤ 10 ^ 130 ∧
    (0 < Int.fdiv (Int.fmod t b * m + Int.fmod p b) b → 0 < Int.fmod t b) ∧
    Inv m₀ t₀ p₀ b₀ (Int.fdiv (Int.fmod t b * m + Int.fmod p b) b) b (Int.fmod (Int.fmod t b * m + Int.fmod p b) b) (Int.fmod t b)
      (total + (Int.fdiv (m * (m - 1)) 2 * Int.fdiv t b + m * Int.fdiv p b)) := by
  have g := fs_turn hb t p (Int.le_of_lt h0)
  have hi := h.is
  have s0 := Int.fmod_nonneg_of_pos t hb
  have s1 := Int.fmod_lt_of_pos t hb
  have q0 := Int.fmod_nonneg_of_pos p hb
  have q1 := Int.fmod_lt_of_pos p hb
  generalize Int.fmod t b = s at *
  generalize Int.fmod p b = q at *
  have sm0 : 0 ≤ s * m := Int.mul_nonneg s0 (Int.le_of_lt h0)
  have sm1 : s * m ≤ (b - 1) * m := Int.mul_le_mul_of_nonneg_right (by omega) (Int.le_of_lt h0)
  rw [Int.sub_mul, Int.one_mul] at sm1
  have r0 := Int.fmod_nonneg_of_pos (s * m + q) hb
  have r1 := Int.fmod_lt_of_pos (s * m + q) hb
  have d0 : 0 ≤ Int.fdiv (s * m + q) b := Int.fdiv_nonneg (by omega) (by omega)
  have e : b * Int.fdiv (s * m + q) b + Int.fmod (s * m + q) b = s * m + q := by rw [Int.fmod_def]; omega
  have d1 : Int.fdiv (s * m + q) b ≤ m := by
    have : Int.fdiv (s * m + q) b < m + 1 := by
      refine Int.lt_of_mul_lt_mul_left (a := b) ?_ (by omega)
      rw [Int.mul_add, Int.mul_one]
      omega
    omega
  refine ⟨d0, by omega, by omega, hb1, by omega, by omega, s0, by omega, fun hp => ?_, ⟨by omega⟩⟩
  rcases (by omega : s = 0 ∨ 0 < s) with hs | hs
  · subst hs
    have : Int.fdiv (0 * m + q) b = 0 := by
      rw [Int.zero_mul, Int.zero_add, Int.fdiv_eq_ediv_of_nonneg _ (by omega)]
      exact Int.ediv_eq_zero_of_lt q0 q1
    omega
  · exact hs

theorem less {t b : Int} (hb : 0 < b) : (Int.fmod t b).toNat < b.toNat := by
  have s0 := Int.fmod_nonneg_of_pos t hb
  have s1 := Int.fmod_lt_of_pos t hb
  omega

theorem out {m₀ t₀ p₀ b₀ m t p b total : Int} (h : Inv m₀ t₀ p₀ b₀ m t p b total) (h0 : ¬ 0 < m) : total = fsum m₀ t₀ p₀ b₀ := by
  have hi := h.is
  rw [fsum_zero (by omega)] at hi
  omega

set_option exponentiation.threshold 1000 in
theorem pow_131 : 10 ^ 131 < 2 ^ 436 := by decide +kernel
theorem bits_small {x : Int} (h1 : -10 ^ 131 ≤ x) (h2 : x ≤ 10 ^ 131) : Builtin.Int.intBits x ≤ 436 := by
  refine PySem.intBits_le_iff.mpr ?_
  have : x.natAbs ≤ 10 ^ 131 := by omega
  exact Nat.lt_of_le_of_lt this pow_131

-- the law's own readers
def numb (c : Int) : Int :=
  if Int.fmod c 3 = 0 then Int.fmod (Int.fdiv c 3) 41 - 20
  else if Int.fmod c 3 = 1 then Int.fmod (Int.fdiv c 3 * 982451653) (2 * 10 ^ 18 + 1) - 10 ^ 18
  else Int.fmod (Int.fdiv c 3 * (10 ^ 43 + 57)) (2 * 10 ^ 60 + 1) - 10 ^ 60
theorem numb_in (c : Int) : -10 ^ 60 ≤ numb c ∧ numb c ≤ 10 ^ 60 := by
  unfold numb
  have a0 := Int.fmod_nonneg_of_pos (Int.fdiv c 3) (show (0 : Int) < 41 by decide)
  have a1 := Int.fmod_lt_of_pos (Int.fdiv c 3) (show (0 : Int) < 41 by decide)
  have b0 := Int.fmod_nonneg_of_pos (Int.fdiv c 3 * 982451653) (show (0 : Int) < 2 * 10 ^ 18 + 1 by decide)
  have b1 := Int.fmod_lt_of_pos (Int.fdiv c 3 * 982451653) (show (0 : Int) < 2 * 10 ^ 18 + 1 by decide)
  have c0 := Int.fmod_nonneg_of_pos (Int.fdiv c 3 * (10 ^ 43 + 57)) (show (0 : Int) < 2 * 10 ^ 60 + 1 by decide)
  have c1 := Int.fmod_lt_of_pos (Int.fdiv c 3 * (10 ^ 43 + 57)) (show (0 : Int) < 2 * 10 ^ 60 + 1 by decide)
  generalize Int.fmod (Int.fdiv c 3) 41 = x at *
  generalize Int.fmod (Int.fdiv c 3 * 982451653) (2 * 10 ^ 18 + 1) = y at *
  generalize Int.fmod (Int.fdiv c 3 * (10 ^ 43 + 57)) (2 * 10 ^ 60 + 1) = z at *
  split
  · omega
  · split <;> omega
def beats (c : Int) : Int :=
  if Int.fmod c 2 = 0 then 1 + Int.fmod (Int.fdiv c 2) 12
  else 1 + Int.fmod (Int.fdiv c 2 * (10 ^ 41 + 129)) (10 ^ 60)
theorem beats_in (c : Int) : 1 ≤ beats c ∧ beats c ≤ 10 ^ 60 := by
  unfold beats
  have a0 := Int.fmod_nonneg_of_pos (Int.fdiv c 2) (show (0 : Int) < 12 by decide)
  have a1 := Int.fmod_lt_of_pos (Int.fdiv c 2) (show (0 : Int) < 12 by decide)
  have c0 := Int.fmod_nonneg_of_pos (Int.fdiv c 2 * (10 ^ 41 + 129)) (show (0 : Int) < 10 ^ 60 by decide)
  have c1 := Int.fmod_lt_of_pos (Int.fdiv c 2 * (10 ^ 41 + 129)) (show (0 : Int) < 10 ^ 60 by decide)
  generalize Int.fmod (Int.fdiv c 2) 12 = x at *
  generalize Int.fmod (Int.fdiv c 2 * (10 ^ 41 + 129)) (10 ^ 60) = z at *
  split <;> omega
end Fs

namespace Fs
theorem lstart (t p b : Int) : (0 : Int) = fs ([] : List Int).length t p b := rfl
theorem lturn {pre : List Int} {t p b due k : Int} (h : due = fs pre.length t p b) (hk : k = 0 + (pre.length : Int)) :
    due + Int.fdiv (t * k + p) b = fs (pre ++ [k]).length t p b := by
  have l : (pre ++ [k]).length = pre.length + 1 := by simp
  rw [l, fs, h, hk, Int.zero_add]
end Fs
open PySem PySem.W PyProof.Rows
namespace Fs
open PySem PySem.W PySem.Calls PyProof.Rows
section
variable {prog : Program} {w : World} {A : Around} {E : Value → Shared → Prop} {s : Shared} {t u : Tok} {Q : Value → Shared → Prop}
theorem pow10 {n v : Int} (hn : 0 ≤ n) (hn2 : n ≤ 1000000) (hv : (10 : Int) ^ n.toNat = v) (h : Q (.int v s.toks) { s with toks := s.toks + 1 }) :
    wpAny (model prog w) A (binaryOp .Pow (.int 10 t) (.int n u)) Q E s := by
  refine pow_int_small hn hn2 (by decide) ?_
  rw [hv]
  exact h
theorem divi {x y : Int} (hy : 0 < y) (hs : y ≤ 10 ^ 131) (h : Q (.int (Int.fdiv x y) s.toks) { s with toks := s.toks + 1 }) :
    wpAny (model prog w) A (binaryOp .FloorDiv (.int x t) (.int y u)) Q E s :=
  PyProof.Rows.floordiv_int (by omega) h (Or.inl (PyProof.noPylong_of_log2 (by
    have e : y.natAbs ≤ 10 ^ 131 := by omega
    have g : y.natAbs.log2 < 436 := (Nat.log2_lt (by omega)).mpr (Nat.lt_of_le_of_lt e pow_131)
    omega)))
theorem modi {x y : Int} (hy : 0 < y) (h : Q (.int (Int.fmod x y) s.toks) { s with toks := s.toks + 1 }) :
    wpAny (model prog w) A (binaryOp .Mod (.int x t) (.int y u)) Q E s :=
  PyProof.Rows.mod_int (by omega) h
theorem step_eq {x y : Int} (e : x = y) (h : Q (.bool true) s) : wpAny (model prog w) A (compareOp .Eq (.int x t) (.int y u)) Q E s := by
  refine PyProof.Rows.eq_int ?_
  have d : (x == y) = true := beq_iff_eq.mpr e
  rw [d]
  exact h
theorem whole {m t p b due : Int} {n : Nat} (h : due = fs (rangeKs 0 n).length t p b) (hn : n = (m - 0).toNat) : fsum m t p b = due := by
  rw [h, rangeKs_length, hn, Int.sub_zero]
  rfl
theorem none_zero (t p b : Int) : fsum 0 t p b = 0 := rfl
theorem pow18 (h : Q (.int 1000000000000000000 s.toks) { s with toks := s.toks + 1 }) : wpAny (model prog w) A (binaryOp .Pow (.int 10 t) (.int 18 u)) Q E s := pow10 (by decide) (by decide) (by decide) h
theorem pow60 (h : Q (.int 1000000000000000000000000000000000000000000000000000000000000 s.toks) { s with toks := s.toks + 1 }) : wpAny (model prog w) A (binaryOp .Pow (.int 10 t) (.int 60 u)) Q E s := pow10 (by decide) (by decide) (by decide) h
theorem pow43 (h : Q (.int 10000000000000000000000000000000000000000000 s.toks) { s with toks := s.toks + 1 }) : wpAny (model prog w) A (binaryOp .Pow (.int 10 t) (.int 43 u)) Q E s := pow10 (by decide) (by decide) (by decide) h
theorem pow41 (h : Q (.int 100000000000000000000000000000000000000000 s.toks) { s with toks := s.toks + 1 }) : wpAny (model prog w) A (binaryOp .Pow (.int 10 t) (.int 41 u)) Q E s := pow10 (by decide) (by decide) (by decide) h
end
end Fs
open PySem PySem.W PyProof.Rows
local macro_rules | `(tactic| walk_at "binaryOp Pow int int") => `(tactic| (k_here; first | (with_reducible refine' Fs.pow18 ?_) | (with_reducible refine' Fs.pow60 ?_) | (with_reducible refine' Fs.pow43 ?_) | (with_reducible refine' Fs.pow41 ?_)))
local macro_rules | `(tactic| bits_by_make) => `(tactic| first | with_reducible assumption | exact Fs.bits_small (by omega) (by omega))
local macro_rules | `(tactic| l_fact) => `(tactic| ((with_reducible show Builtin.Int.intBits _ ≤ 1048576); bits_by_make))
local macro_rules | `(tactic| walk_at "binaryOp FloorDiv int int") => `(tactic| (k_here; (with_reducible refine' Fs.divi ?k1 ?k2 ?_); (case k1 => k_dflt omega); (case k2 => k_dflt omega)))
local macro_rules | `(tactic| walk_at "binaryOp Mod int int") => `(tactic| (k_here; (with_reducible refine' Fs.modi ?k1 ?_); (case k1 => k_dflt omega)))
local macro_rules | `(tactic| walk_at "call ref cons nil") => `(tactic| first | k_call_by "floor_sum" Fs.fsum (fun (m t p b : Int) => 0 ≤ m ∧ m ≤ 10 ^ 130 ∧ -10 ^ 130 ≤ t ∧ t ≤ 10 ^ 130 ∧ -10 ^ 130 ≤ p ∧ p ≤ 10 ^ 130 ∧ 0 < b ∧ b ≤ 10 ^ 130) | k_call_by "_law_number" Fs.numb (fun (c : Int) => Builtin.Int.intBits c ≤ 1048576) | k_call_by "_law_beats" Fs.beats (fun (c : Int) => Builtin.Int.intBits c ≤ 1048576))
local macro_rules | `(tactic| walk_at "eval Call Name cons nil") => `(tactic| (k_here; (first | (with_reducible show wpAny _ _ (PySem.eval (PySem.Expr.Call (PySem.Expr.Name (PySem.Str.ofString "_law_number") _) _ _ _) _) _ _ _) | (with_reducible show wpAny _ _ (PySem.eval (PySem.Expr.Call (PySem.Expr.Name (PySem.Str.ofString "_law_beats") _) _ _ _) _) _ _ _) | (with_reducible show wpAny _ _ (PySem.eval (PySem.Expr.Call (PySem.Expr.Name (PySem.Str.ofString "floor_sum") _) _ _ _) _) _ _ _)); refine PyProof.Rows.Call_ ?_))
local macro_rules | `(tactic| walk_at "compareOp Eq int int") => `(tactic| (k_here; (with_reducible refine' Fs.step_eq ?k1 ?_); (case k1 => k_dflt (first | exact Fs.none_zero _ _ _ | exact Fs.whole (by assumption) (by first | rfl | omega)))))
example : Int → Int → Int → Int → List Int → Int → Int → Int → Int → Int → Prop := fun m₀ t₀ p₀ b₀ _ m t p b total =>
  0 ≤ m ∧ m ≤ 10 ^ 130 ∧ -10 ^ 130 ≤ t ∧ t ≤ 10 ^ 130 ∧ -10 ^ 130 ≤ p ∧ p ≤ 10 ^ 130 ∧ 0 ≤ b ∧ b ≤ 10 ^ 130 ∧ (0 < m → 0 < b) ∧ Fs.Inv m₀ t₀ p₀ b₀ m t p b total
example : Int → Int → Int → List Int → Int → Prop := fun t p b pre due => due = Fs.fs pre.length t p b
set_option maxRecDepth 100000 in
set_option maxHeartbeats 8000000 in
theorem PySem.Challenge.cw_camplay_k01_floor_sum_holds : PySem.Challenge.rw_camplay_k01_floor_sum.Holds := by
  k_with "fact _law_number" => exact Fs.numb_in
  k_with "fact _law_beats" => exact Fs.beats_in
  k_with "tree" => first
    | exact Fs.out (by assumption) (by omega)
    | simp only [Fs.numb]
    | simp only [Fs.beats]
  k_with "state" => first
    | exact Fs.start (by assumption)
    | exact Fs.turn (by assumption) (by omega) (by omega) (by omega) (by omega)
    | exact Fs.lstart _ _ _
    | exact Fs.lturn (by assumption) (by assumption)
  k_with "measure" => exact Fs.less (by omega)
  k_with "exec While Compare cons nil" => k_while_given ["many!", "top!", "plus!", "bottom!"] (fun m₀ t₀ p₀ b₀ _ m t p b total =>
    0 ≤ m ∧ m ≤ 10 ^ 130 ∧ -10 ^ 130 ≤ t ∧ t ≤ 10 ^ 130 ∧ -10 ^ 130 ≤ p ∧ p ≤ 10 ^ 130 ∧ 0 ≤ b ∧ b ≤ 10 ^ 130 ∧ (0 < m → 0 < b) ∧ Fs.Inv m₀ t₀ p₀ b₀ m t p b total)
    (fun _ _ _ _ _ _ _ _ b _ => b.toNat) "many" "top" "plus" "bottom" "total"
  k_with "pyIter ref" => k_state_given ["_law_top", "_law_plus", "_law_bottom"] (fun t p b pre due => due = Fs.fs pre.length t p b) "_law_due"
  open_k
#print axioms PySem.Challenge.cw_camplay_k01_floor_sum_holds
