import Derived.Test.YtakgacahaennoaaDoorE6
import Derived.Test.YtakgacahaennoaaDoorW5
namespace Go.Proofs.YtakgacahaennoaaDoor
open Go.RowKit Go.Arb

theorem rPut : RPut := fun w q S ks id n h => rPut_of (fun w q vi va S id n h h0 h1 hl hg => rput_yes w q vi va S id n h h0 h1 hl hg) w q S ks id n h
end Go.Proofs.YtakgacahaennoaaDoor
