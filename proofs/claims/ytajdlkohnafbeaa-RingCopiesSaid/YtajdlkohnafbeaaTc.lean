import Derived.Test.YtajdlkohnafbeaaTa
import Derived.Test.YtajdlkohnafbeaaTb
namespace Go.Proofs.Ytajdlkohnafbeaa
open Go.RowKit

theorem act_any (X : Nat → Prop) (g r most first : Nat) (l : List Int) (n : Nat) (A : Option Addr) (c : Nat) (what val : Int) (far : Nat) (w : World) (h : Rg w g r most first l) (hn : l.length = n) (hp : Fine w (OffX X w g r) A l c) (hX : ∀ k, X k → k < w.heap.size) :
    Calls Try.prog 11 #[.pointer (some ⟨g, 0, none⟩), rv A n c first most, .agg #[.int .i64 what, .int .i64 val, .int .u64 (far : Int)]] w (Acted X g r most w) := by
  by_cases h0 : what = 0 ∨ what = 1 ∨ what = 2 ∨ what = 3
  · exact act_put X g r most first l n A c what val far w h hn hp hX h0
  by_cases h4 : what = 4
  · exact act_drop X g r most first l n A c what val far w h hn hp hX h4
  by_cases h5 : what = 5
  · exact act_set X g r most first l n A c what val far w h hn hp hX h5
  · exact act_copy X g r most first l n A c what val far w h hn hp (by omega)
end Go.Proofs.Ytajdlkohnafbeaa
