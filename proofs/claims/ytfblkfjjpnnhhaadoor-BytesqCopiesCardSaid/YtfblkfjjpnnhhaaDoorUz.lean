import Derived.Test.YtfblkfjjpnnhhaaDoorUh
import Derived.Test.YtfblkfjjpnnhhaaDoorUi
import Derived.Test.YtfblkfjjpnnhhaaDoorUj
namespace Go.Proofs.YtfblkfjjpnnhhaaDoor
open Go.RowKit

theorem act_any (X : Nat → Prop) (d : Deed) (g r room : Nat) (l : List UInt8) (A : Option Addr) (c : Nat) (w : World) (h : Qu w g r room l) (hr : r < w.heap.size) (hp : Fine w (OffX X w g r) ⟨A, l, c⟩) (hX : ∀ k, X k → k < w.heap.size) (hd : DeedOk w (Off w g r) d) (hsum : d.a.l.length + d.b.l.length ≤ 300) :
    Calls Tryd.prog 11 #[.pointer (some ⟨g, 0, none⟩), refVal ⟨A, l, c⟩ room, .agg #[.int .i64 d.what, .int .i64 d.n, d.a.val, d.b.val]] w (Acted X g r room w) := by
  by_cases h0 : d.what = 0
  · exact act_push0 X d g r room l A c w h hr hp hX hd.1 hd.2.1 hsum h0
  by_cases h1 : d.what = 1
  · exact act_push1 X d g r room l A c w h hr hp hX hd.1 hd.2.1 hsum h1
  by_cases h2 : d.what = 2
  · exact act_push2 X d g r room l A c w h hr hp hX hd.1 hd.2.1 hsum h2
  by_cases h3 : d.what = 3
  · exact act_take X d g r room l A c w h hr hp h3
  by_cases h4 : d.what = 4
  · exact act_peek X d g r room l A c w h hr hp h4
  by_cases h5 : d.what = 5
  · exact act_drop X d g r room l A c w h hr hp h5
  · exact act_copy X d g r room l A c w h hp (by omega)
end Go.Proofs.YtfblkfjjpnnhhaaDoor
