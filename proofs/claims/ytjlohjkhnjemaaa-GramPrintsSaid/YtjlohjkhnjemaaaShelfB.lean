/- The shelf, imported. -/
import Derived.Test.YtjlohjkhnjemaaaShelf
