
/- PagedSize and BestPage, both sides. -/
import Derived.Test.YtmhloojnekjfhaaDoorKsPagD
namespace Go.Proofs.YtmhloojnekjfhaaDoor
open Go.RowKit Go.Shelf Go.Lib Go.Sort

theorem pagesFn {b off cap : Nat} {d : Array CaseD} {rest : Int} {w : World} (hR : RowC w b off d) (hE : ErrAt w) (hcap : d.size ≤ cap) (hmax : cap ≤ maxLen) : PagesFn b off cap d rest w := fun size W hW => implPagesOf_any b off cap d rest size W (hR.below hW) (hE.below hW) hcap hmax
theorem implPSize_any (b off cap : Nat) (d : Array CaseD) (rest size : Int) (w : World) (hR : RowC w b off d) (hE : ErrAt w) (hcap : d.size ≤ cap) (hmax : cap ≤ maxLen) :
    Calls Tryd.prog 10 #[.agg #[.slice (some ⟨b, off, none⟩) d.size cap, .int .i64 rest], .int .i64 size] w fun x w' => x = .returned (.int .i64 (entN d rest size)) ∧ RowKit.Below w.heap.size w w' :=
  implPSize_of b off cap d rest size w (pagesFn hR hE hcap hmax)
theorem implBPage_any (b off cap : Nat) (d : Array CaseD) (rest : Int) (w : World) (hR : RowC w b off d) (hE : ErrAt w) (hcap : d.size ≤ cap) (hmax : cap ≤ maxLen) :
    Calls Tryd.prog 11 #[.agg #[.slice (some ⟨b, off, none⟩) d.size cap, .int .i64 rest]] w fun x w' => x = .returned (.int .i64 (bestPN d rest)) ∧ RowKit.Below w.heap.size w w' :=
  implBPage_of b off cap d rest w hR hE hcap hmax (pagesFn hR hE hcap hmax)
end Go.Proofs.YtmhloojnekjfhaaDoor
