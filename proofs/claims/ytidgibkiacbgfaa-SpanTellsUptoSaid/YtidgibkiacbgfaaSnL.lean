/-
  The example of two leaves side by side and a third one behind them: how it lies in memory; keep's leaf.
-/
import Derived.Test.YtidgibkiacbgfaaSpB
namespace Go.Proofs.Ytidgibkiacbgfaa
open Go.RowKit
set_option maxRecDepth 100000

theorem results_tm {fn : Func} {p : Tmp} (h : fn.results = #[.cell p 26]) (tmps : Array Value) (w : World) (g : Nat) (hd : Hd)
    (hp : tmps.getD p undef = .pointer (some ⟨g, 0, none⟩)) (hg : TB 26 w g hd) :
    (results fn tmps).run Try.prog w = .ok (.agg hd.cells) w := by
  have hp' : tmps[p]?.getD undef = .pointer (some ⟨g, 0, none⟩) := by simpa using hp
  simp [results, h, hp', asAddr, run_loadVar_row w g 26 26 hd.cells (0, 0) _ hg Try.underlying26 rfl Try.infoTm]

theorem leafK_any (n : Int) (w : World) :
    Calls Try.prog 18 #[.int .i64 n] w fun e w' => e = .returned (.agg #[.int .i64 1, .int .i64 n, .bool false, .int .i64 0, .slice none 0 0]) ∧ Below w.heap.size w w' := by
  go_enter Try.func18, Try.ntmps18
  go_wp2_with fail
  exact bodyPost_ret (results_tm rfl _ _ w.heap.size ⟨1, n, false, 0, none, 0, 0⟩ rfl (TB.new w 26 ⟨1, n, false, 0, none, 0, 0⟩)) rfl ⟨rfl, (Below.refl _ _).alloc (Nat.le_refl _) _⟩

/-- the example: two leaves side by side, a third one behind them -/
def T4 : Tm := .seq (.par (.one (1, false, 0)) (.one (2, false, 0))) (.one (3, false, 0))

/-- two headers in a row -/
def two5 (a b : Hd) : Array Value := #[.int .i64 a.k, .int .i64 a.c, .bool a.x, .int .i64 a.l, .slice a.A a.n a.cap, .int .i64 b.k, .int .i64 b.c, .bool b.x, .int .i64 b.l, .slice b.A b.n b.cap]
theorem two5_at {w : World} {B : Nat} {a b : Hd} {T : TypeId} (h : w.heap[B]? = some (.cells (two5 a b) T (0, 0))) : HdAt w B 0 a ∧ HdAt w B (0 + 5) b := by
  constructor
  · constructor <;> simp only [World.cell?, h] <;> rfl
  · constructor <;> simp only [World.cell?, h] <;> rfl

def h1' : Hd := ⟨1, 1, false, 0, none, 0, 0⟩
def h2' : Hd := ⟨1, 2, false, 0, none, 0, 0⟩
def h3' : Hd := ⟨1, 3, false, 0, none, 0, 0⟩
def hPar (b : Nat) : Hd := ⟨3, 0, false, 0, some ⟨b, 0, none⟩, 2, 2⟩
def hTop (b : Nat) : Hd := ⟨2, 0, false, 0, some ⟨b, 0, none⟩, 2, 2⟩

theorem below_alc (w : World) (o : Obj) : Below w.heap.size w (w.alloc o) := (Below.refl _ w).alloc (Nat.le_refl _) _

theorem T4_in (w2 w3 : World) (hb : Below (w2.alloc (.cells (two5 h1' h2') 26)).heap.size (w2.alloc (.cells (two5 h1' h2') 26)) w3) :
    ∃ W, W = (w3.alloc (.cells (two5 (hPar w2.heap.size) h3') 26)).alloc (.cells (hTop w3.heap.size).cells 26) ∧ TIn W W.heap.size T4 (hTop w3.heap.size) ∧ TB 26 W (w3.heap.size + 1) (hTop w3.heap.size) ∧ Below w2.heap.size w2 W := by
  have hsz : (w2.alloc (.cells (two5 h1' h2') 26)).heap.size = w2.heap.size + 1 := by simp
  rw [hsz] at hb
  have hlt := hb.size
  rw [hsz] at hlt
  have hb3 : Below (w2.heap.size + 1) w3 ((w3.alloc (.cells (two5 (hPar w2.heap.size) h3') 26)).alloc (.cells (hTop w3.heap.size).cells 26)) :=
    ((Below.refl _ _).alloc hlt _).alloc (by simp; omega) _
  have e1 := (hb.trans hb3).block w2.heap.size (by omega)
  rw [World.alloc_heap_new] at e1
  have e2 : ((w3.alloc (.cells (two5 (hPar w2.heap.size) h3') 26)).alloc (.cells (hTop w3.heap.size).cells 26)).heap[w3.heap.size]? = some (.cells (two5 (hPar w2.heap.size) h3') 26 (0, 0)) := by
    have := (below_alc (w3.alloc (.cells (two5 (hPar w2.heap.size) h3') 26)) (.cells (hTop w3.heap.size).cells 26)).block w3.heap.size (by simp)
    rw [this, World.alloc_heap_new]
  have hsW : ((w3.alloc (.cells (two5 (hPar w2.heap.size) h3') 26)).alloc (.cells (hTop w3.heap.size).cells 26)).heap.size = w3.heap.size + 1 + 1 := by simp
  have a1 := two5_at e1
  have a2 := two5_at e2
  refine ⟨_, rfl, ?_, ?_, ((below_alc _ _).mono (Nat.le_refl _)).trans ((hb.trans hb3).mono (by omega))⟩
  · rw [hsW]
    exact ⟨rfl, Nat.le_refl 2, w3.heap.size, 0, hPar w2.heap.size, h3', rfl, by omega, a2.1, a2.2, ⟨rfl, Nat.le_refl 2, w2.heap.size, 0, h1', h2', rfl, by omega, a1.1, a1.2, ⟨rfl, rfl⟩, ⟨rfl, rfl⟩⟩, ⟨rfl, rfl⟩⟩
  · have := TB.new (w3.alloc (.cells (two5 (hPar w2.heap.size) h3') 26)) 26 (hTop w3.heap.size)
    rwa [World.size_alloc] at this

theorem T4_sz : T4.sz = 3 := rfl
end Go.Proofs.Ytidgibkiacbgfaa
